/- Are two lists of texts alike? -/
import Derived.Test.YtobkomfeojhhbaaDoorLz
import Derived.BigQuiet
namespace Go.Proofs.YtobkomfeojhhbaaDoor
open Go.RowKit

def eqT (as' bs : List ByteArray) : Bool := decide (as' = bs)
set_option maxRecDepth 100000 in
set_option maxHeartbeats 1500000 in
theorem texts_any (v u : Value) (ls ms : List ByteArray) (w : World) (h : TextsAt w v ls) (hm : TextsAt w u ms) :
    Calls Tryd.prog 24 #[v, u] w fun e w' => e = .returned (.bool (eqT ls ms)) ∧ ∃ q, w' = w.drewN q := by
  obtain ⟨a, c, rfl, hlc, -⟩ := id h
  obtain ⟨a2, c2, rfl, -, -⟩ := id hm
  have hmx : ls.length ≤ 9223372036854775807 := by have h1 := hlc; unfold maxLen at h1; omega
  have HC : Hid (TextsAt w (.slice a ls.length c) ls) := h
  have HM : Hid (TextsAt w (.slice a2 ms.length c2) ms) := hm
  clear h hm
  by_cases hle : ls.length = ms.length
  · go_enter Tryd.func24, Tryd.ntmps24
    have hlei : (ls.length : Int) = (ms.length : Int) := by omega
    go_wp2
    go_loopw [5] (fun i wr => ∃ k q : Nat, k ≤ ls.length ∧ i = .int .i64 k ∧ wr = w.drewN q ∧ Hid (∀ j (h1 : j < ls.length) (h2 : j < ms.length), j < k → ls[j] = ms[j])) (fun i _ => ls.length - (intOf i).toNat)
    case atStart => exact ⟨0, 0, Nat.zero_le _, rfl, rfl, fun _ _ _ h => absurd h (Nat.not_lt_zero _)⟩
    case round =>
      obtain ⟨k, q, hk, rfl, rfl, hall⟩ := hrel
      by_cases hlt : k < ls.length
      · have hlt2 : k < ms.length := by omega
        obtain ⟨b, o, rfl, -, hone⟩ := HC.out.one k hlt
        obtain ⟨b2, o2, rfl, -, hone2⟩ := HM.out.one k hlt2
        obtain ⟨x, hx⟩ : ∃ x, x = ls[k] := ⟨_, rfl⟩
        obtain ⟨y, hy⟩ : ∃ y, y = ms[k] := ⟨_, rfl⟩
        rw [← hx] at hone
        rw [← hy] at hone2
        have g0 := hone _ (below_drewN (Below.refl _ _) q)
        have e0 := hone2 _ (below_drewN (Below.refl _ _) q)
        have HX : Hid (ls[k] = x ∧ ms[k] = y) := ⟨hx.symm, hy.symm⟩
        have HQ : Hid (∀ m, (w.drewN q).drewN m = w.drewN (q + m)) := fun m => World.drewN_drewN _ _ _
        clear hone hone2 hx hy HC HM
        have hkl : (k : Int) < (ls.length : Int) := by omega
        have hkl2 : (k : Int) < (ms.length : Int) := by omega
        generalize w.drewN q = wr at *
        cases hxy : (x.toList == y.toList)
        · have HN : Hid (eqT ls ms = false) := by
            show _ = _
            unfold eqT
            rw [decide_eq_false_iff_not]
            intro e
            have h9 : ls[k] = ms[k] := by subst e; rfl
            rw [HX.out.1, HX.out.2] at h9
            rw [h9] at hxy
            simp at hxy
          go_wp2
          go_quiet (fail)
          go_wp2
          go_ret
          exact ⟨ret_bool HN.out.symm, q + nq, HQ.out nq⟩
        · have HN : Hid (∀ j (h1 : j < ls.length) (h2 : j < ms.length), j < k + 1 → ls[j] = ms[j]) := fun j h1 h2 hj => by
            rcases Nat.lt_succ_iff_lt_or_eq.1 hj with h9 | h9
            · exact hall.out j h1 h2 h9
            · subst h9
              rw [HX.out.1, HX.out.2]
              exact toList_inj (by simpa using hxy)
          go_wp2
          go_quiet (fail)
          go_wp2
          go_roundw
          case rel => exact ⟨k + 1, q + nq, by omega, by go_num, HQ.out nq, HN⟩
          case measure => simp [intOf]; omega
      · have HN : Hid (eqT ls ms = true) := by
          show _ = _
          unfold eqT
          rw [decide_eq_true_iff]
          exact List.ext_getElem hle fun j h1 h2 => hall.out j h1 h2 (by omega)
        clear hall HC HM
        go_wp2
        go_ret
        exact ⟨ret_bool HN.out.symm, q, rfl⟩
  · have HN : Hid (eqT ls ms = false) := by
      show _ = _
      unfold eqT
      rw [decide_eq_false_iff_not]
      intro e
      exact hle (by rw [e])
    have hlei : ¬ (ls.length : Int) = (ms.length : Int) := by omega
    clear HC HM
    go_enter Tryd.func24, Tryd.ntmps24
    go_wp2
    go_ret
    exact ⟨ret_bool HN.out.symm, 0, rfl⟩

end Go.Proofs.YtobkomfeojhhbaaDoor
