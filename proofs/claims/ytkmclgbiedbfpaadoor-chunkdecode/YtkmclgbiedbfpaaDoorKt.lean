/- Are two rows alike? Unlike samples have unlike chunks. -/
import Derived.Test.YtkmclgbiedbfpaaDoorKm
import Derived.Test.YtkmclgbiedbfpaaDoorKv
namespace Go.Proofs.YtkmclgbiedbfpaaDoor
open Go.RowKit Go.Shelf Go.Maps

theorem sg_inj {a b : UInt64} (h : sg a = sg b) : a = b := by
  have h1 := sg_wrap a
  have h2 := sg_wrap b
  rw [h, h2] at h1
  exact UInt64.toNat_inj.1 (by omega)
def eqS (l m : List Sm) : Bool := decide (l = m)

set_option maxRecDepth 100000 in
set_option maxHeartbeats 1500000 in
theorem samples_any (v u : Value) (l m : List Sm) (w : World) (h1 : SmpAt w v l) (h2 : SmpAt w u m) (hl : l.length ≤ 100000) (hm : m.length ≤ 100000) :
    Calls Tryd.prog 21 #[v, u] w fun e w' => e = .returned (.bool (eqS l m)) ∧ Below w.heap.size w w' := by
  obtain ⟨a, c, rfl, -, -, -⟩ := id h1
  obtain ⟨a2, c2, rfl, -, -, -⟩ := id h2
  have H1 : Hid (SmpAt w (.slice a l.length c) l) := h1
  have H2 : Hid (SmpAt w (.slice a2 m.length c2) m) := h2
  clear h1 h2
  by_cases hle : l.length = m.length
  · have hlei : (l.length : Int) = (m.length : Int) := by omega
    go_enter Tryd.func21, Tryd.ntmps21
    go_wp2
    go_loopw [5] (fun i wr => ∃ k : Nat, k ≤ l.length ∧ i = .int .i64 k ∧ Hid (Below w.heap.size w wr) ∧ Hid (∀ j (h1 : j < l.length) (h2 : j < m.length), j < k → l[j] = m[j])) (fun i _ => l.length - (intOf i).toNat)
    case atStart => exact ⟨0, Nat.zero_le _, rfl, Below.refl _ _, fun _ _ _ h => absurd h (Nat.not_lt_zero _)⟩
    case round =>
      obtain ⟨k, hk, rfl, hb, hall⟩ := hrel
      by_cases hlt : k < l.length
      · have hlt2 : k < m.length := by omega
        obtain ⟨b, o, rfl, hone⟩ := H1.out.one k hlt
        obtain ⟨b2, o2, rfl, hone2⟩ := H2.out.one k hlt2
        obtain ⟨g0, g1⟩ := hone wr hb.out
        obtain ⟨f0, f1⟩ := hone2 wr hb.out
        have hsi := sg_in l[k].1
        have hsi2 := sg_in m[k].1
        have HX : Hid (∀ W, Calls Tryd.prog 27 #[.float .f64 l[k].2.toNat, .float .f64 m[k].2.toNat] W fun e w' => e = .returned (.bool (decide (l[k].2.toNat = m[k].2.toNat))) ∧ w' = W) := fun W => keepBits_any _ _ W
        have hki : (k : Int) < (l.length : Int) := by omega
        have hki2 : (k : Int) < (m.length : Int) := by omega
        have HN : Hid (¬ (sg l[k].1 = sg m[k].1 ∧ l[k].2.toNat = m[k].2.toNat) → eqS l m = false) := fun hne => by
          unfold eqS
          rw [decide_eq_false_iff_not]
          intro e
          apply hne
          have h9 : l[k] = m[k] := by subst e; rfl
          rw [h9]
          exact ⟨rfl, rfl⟩
        have HY : Hid (sg l[k].1 = sg m[k].1 → l[k].2.toNat = m[k].2.toNat → ∀ j (h1 : j < l.length) (h2 : j < m.length), j < k + 1 → l[j] = m[j]) := fun e1 e2 j h1 h2 hj => by
          rcases Nat.lt_succ_iff_lt_or_eq.1 hj with h9 | h9
          · exact hall.out j h1 h2 h9
          · subst h9
            exact Prod.ext (sg_inj e1) (UInt64.toNat_inj.1 e2)
        clear hone hone2 hall H1 H2
        generalize sg l[k].1 = A at *
        generalize l[k].2.toNat = B at *
        generalize sg m[k].1 = A2 at *
        generalize m[k].2.toNat = B2 at *
        by_cases hA : A = A2
        · subst hA
          by_cases hB : B = B2
          · subst hB
            have HK : Hid (∀ W, Calls Tryd.prog 27 #[.float .f64 B, .float .f64 B] W fun e w' => e = .returned (.bool true) ∧ w' = W) := fun W => by
              have := HX.out W
              rw [decide_eq_true rfl] at this
              exact this
            have HALL : Hid (∀ j (h1 : j < l.length) (h2 : j < m.length), j < k + 1 → l[j] = m[j]) := HY.out rfl rfl
            clear HX HN HY
            go_wp2_with fail
            go_quiet (first | (go_at_call 27; exact Calls.quiet_of_same (HK.out _)))
            go_wp2
            go_roundw
            case rel => exact ⟨k + 1, by omega, by go_num, below_drewN hb.out nq, HALL⟩
            case measure => simp [intOf]; omega
          · have HK : Hid (∀ W, Calls Tryd.prog 27 #[.float .f64 B, .float .f64 B2] W fun e w' => e = .returned (.bool false) ∧ w' = W) := fun W => by
              have := HX.out W
              rw [decide_eq_false hB] at this
              exact this
            have HF : Hid (eqS l m = false) := HN.out (fun h => hB h.2)
            clear HX HN HY hB
            go_wp2_with fail
            go_quiet (first | (go_at_call 27; exact Calls.quiet_of_same (HK.out _)))
            go_wp2
            go_ret
            exact ⟨ret_b HF.out.symm, below_drewN hb.out nq⟩
        · have HF : Hid (eqS l m = false) := HN.out (fun h => hA h.1)
          have hA1 : (A == A2) = false := by simpa using hA
          have hA2 : (A != A2) = true := by simpa using hA
          clear HX HN HY
          go_wp2_with fail
          go_quiet (fail)
          go_wp2
          go_ret
          exact ⟨ret_b HF.out.symm, below_drewN hb.out nq⟩
      · have HN : Hid (eqS l m = true) := by
          show _ = _
          unfold eqS
          rw [decide_eq_true_iff]
          exact List.ext_getElem hle fun j h1 h2 => hall.out j h1 h2 (by omega)
        clear hall H1 H2
        go_wp2
        go_ret
        exact ⟨ret_b HN.out.symm, hb.out⟩
  · have HN : Hid (eqS l m = false) := by
      show _ = _
      unfold eqS
      rw [decide_eq_false_iff_not]
      intro e
      exact hle (by rw [e])
    have hlei : ¬ (l.length : Int) = (m.length : Int) := by omega
    clear H1 H2
    go_enter Tryd.func21, Tryd.ntmps21
    go_wp2
    go_ret
    exact ⟨ret_b HN.out.symm, Below.refl _ _⟩

end Go.Proofs.YtkmclgbiedbfpaaDoor
