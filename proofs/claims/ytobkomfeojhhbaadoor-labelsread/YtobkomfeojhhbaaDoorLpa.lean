/- Are two sets alike? -/
import Derived.Test.YtobkomfeojhhbaaDoorLl
import Derived.Laws.StructEq
namespace Go.Proofs.YtobkomfeojhhbaaDoor
open Go.RowKit

/-- Are two sets alike? -/
def eqLb (x y : Lb) : Bool := x.1.toList == y.1.toList && x.2.toList == y.2.toList
def eqL (ls ms : List Lb) : Bool := decide (ls = ms)
theorem toList_inj {a b : ByteArray} (h : a.toList = b.toList) : a = b := by
  rw [ByteArray.toList_eq, ByteArray.toList_eq] at h
  cases a
  cases b
  simp at h
  rw [h]
theorem eqLb_iff (x y : Lb) : eqLb x y = true ↔ x = y := by
  unfold eqLb
  rw [Bool.and_eq_true, beq_iff_eq, beq_iff_eq]
  constructor
  · rintro ⟨h1, h2⟩
    exact Prod.ext (toList_inj h1) (toList_inj h2)
  · rintro rfl
    exact ⟨rfl, rfl⟩

theorem lbFields : Tryd.prog.underlying 51 = some (.struct (Tryd.prog.fieldsOf 51)) := by kernel_rfl
theorem lbHeld : Tryd.prog.stoodInHeld 51 = false := by kernel_rfl
theorem lbGuard : Tryd.prog.eqGuardType Tryd.prog.depth 51 = false := by kernel_rfl
theorem eqRun (a b c d : ByteArray) (w : World) : (Op.equalIn 10000 51 (.agg #[.string a, .string b]) (.agg #[.string c, .string d])).run Tryd.prog w = .ok (a.toList == c.toList && b.toList == d.toList) w := by
  have u9 := Tryd.underlying9
  have a9 := Tryd.isAgg9
  have z9 := Tryd.sizeOf9
  rw [show (10000 : Nat) = 9999 + 1 from rfl, run_equalIn_agg w 9999 51 _ _ lbFields lbHeld]
  simp only [Program.fieldsOf, Tryd.underlying51]
  go_simp
  by_cases h1 : a.toList = c.toList <;> by_cases h2 : b.toList = d.toList <;> simp [h1, h2]

set_option maxRecDepth 100000 in
set_option maxHeartbeats 1500000 in
theorem alike_any (v u : Value) (ls ms : List Lb) (w : World) (h : LabsAt w v ls) (hm : LabsAt w u ms) (hl : ls.length ≤ 1000000) (hl2 : ms.length ≤ 1000000) :
    Calls Tryd.prog 13 #[v, u] w fun e w' => e = .returned (.bool (eqL ls ms)) ∧ ∃ q, w' = w.drewN q := by
  obtain ⟨a, c, rfl, -, -⟩ := id h
  obtain ⟨a2, c2, rfl, -, -⟩ := id hm
  have HC : Hid (LabsAt w (.slice a ls.length c) ls) := h
  have HM : Hid (LabsAt w (.slice a2 ms.length c2) ms) := hm
  clear h hm
  by_cases hle : ls.length = ms.length
  · go_enter Tryd.func13, Tryd.ntmps13
    have hlei : (ls.length : Int) = (ms.length : Int) := by omega
    go_wp2
    go_loopw [5] (fun i wr => ∃ k q : Nat, k ≤ ls.length ∧ i = .int .i64 k ∧ wr = w.drewN q ∧ Hid (∀ j (h1 : j < ls.length) (h2 : j < ms.length), j < k → ls[j] = ms[j])) (fun i _ => ls.length - (intOf i).toNat)
    case atStart => exact ⟨0, 0, Nat.zero_le _, rfl, rfl, fun _ _ _ h => absurd h (Nat.not_lt_zero _)⟩
    case round =>
      obtain ⟨k, q, hk, rfl, rfl, hall⟩ := hrel
      by_cases hlt : k < ls.length
      · have hlt2 : k < ms.length := by omega
        obtain ⟨b, o, rfl, hone⟩ := HC.out.one k hlt
        obtain ⟨b2, o2, rfl, hone2⟩ := HM.out.one k hlt2
        obtain ⟨x, hx⟩ : ∃ x, x = ls[k] := ⟨_, rfl⟩
        obtain ⟨y, hy⟩ : ∃ y, y = ms[k] := ⟨_, rfl⟩
        rw [← hx] at hone
        rw [← hy] at hone2
        obtain ⟨g0, g1⟩ := hone _ (below_drewN (Below.refl _ _) q)
        obtain ⟨e0, e1⟩ := hone2 _ (below_drewN (Below.refl _ _) q)
        have HX : Hid (ls[k] = x ∧ ms[k] = y) := ⟨hx.symm, hy.symm⟩
        have HQ : Hid (∀ m, (w.drewN q).drewN m = w.drewN (q + m)) := fun m => World.drewN_drewN _ _ _
        clear hone hone2 hx hy HC HM
        have hkl : (k : Int) < (ls.length : Int) := by omega
        have hkl2 : (k : Int) < (ms.length : Int) := by omega
        obtain ⟨x1, x2⟩ := x
        obtain ⟨y1, y2⟩ := y
        dsimp only at g0 g1 e0 e1
        generalize w.drewN q = wr at *
        have q3 := lbGuard
        have hrun := fun W => eqRun x1 x2 y1 y2 W
        have HEQ : Hid ((x1.toList == y1.toList && x2.toList == y2.toList) = eqLb (x1, x2) (y1, y2)) := rfl
        cases hxy : (x1.toList == y1.toList && x2.toList == y2.toList)
        · rw [hxy] at HEQ
          simp only [hxy] at hrun
          have HN : Hid (eqL ls ms = false) := by
            show _ = _
            unfold eqL
            rw [decide_eq_false_iff_not]
            intro e
            have h9 : ls[k] = ms[k] := by subst e; rfl
            rw [HX.out.1, HX.out.2] at h9
            have := (eqLb_iff _ _).2 h9
            rw [← HEQ.out] at this
            cases this
          go_wp2
          go_quiet (fail)
          go_wp2
          go_ret
          exact ⟨ret_bool HN.out.symm, q + nq, HQ.out nq⟩
        · rw [hxy] at HEQ
          simp only [hxy] at hrun
          have HN : Hid (∀ j (h1 : j < ls.length) (h2 : j < ms.length), j < k + 1 → ls[j] = ms[j]) := fun j h1 h2 hj => by
            rcases Nat.lt_succ_iff_lt_or_eq.1 hj with h9 | h9
            · exact hall.out j h1 h2 h9
            · subst h9
              rw [HX.out.1, HX.out.2]
              exact (eqLb_iff _ _).1 HEQ.out.symm
          go_wp2
          go_quiet (fail)
          go_wp2
          go_roundw
          case rel => exact ⟨k + 1, q + nq, by omega, by go_num, HQ.out nq, HN⟩
          case measure => simp [intOf]; omega
      · have HN : Hid (eqL ls ms = true) := by
          show _ = _
          unfold eqL
          rw [decide_eq_true_iff]
          exact List.ext_getElem hle fun j h1 h2 => hall.out j h1 h2 (by omega)
        clear hall HC HM
        go_wp2
        go_ret
        exact ⟨ret_bool HN.out.symm, q, rfl⟩
  · have HN : Hid (eqL ls ms = false) := by
      show _ = _
      unfold eqL
      rw [decide_eq_false_iff_not]
      intro e
      exact hle (by rw [e])
    have hlei : ¬ (ls.length : Int) = (ms.length : Int) := by omega
    clear HC HM
    go_enter Tryd.func13, Tryd.ntmps13
    go_wp2
    go_ret
    exact ⟨ret_bool HN.out.symm, 0, rfl⟩

end Go.Proofs.YtobkomfeojhhbaaDoor
