/- The program's Right. -/
import Derived.Test.YtobkomfeojhhbaaDoorLd
namespace Go.Proofs.YtobkomfeojhhbaaDoor
open Go.RowKit

def okLb (x : Lb) : Bool := !x.2.toList.isEmpty && fairL x
def rightS (ls : List Lb) : Bool := decide (ls.length ≤ 64) && rl ls && ls.all okLb
theorem okLb_not {ls : List Lb} {k : Nat} (hk : k < ls.length) (h : okLb ls[k] = false) : rightS ls = false := by
  have h1 : ls.all okLb = false := by
    rw [Bool.eq_false_iff]
    intro h2
    have h3 := List.all_eq_true.1 h2 _ (List.getElem_mem hk)
    rw [h] at h3
    cases h3
  unfold rightS
  rw [h1, Bool.and_false]

set_option maxRecDepth 100000 in
set_option maxHeartbeats 1500000 in
theorem right_any (v : Value) (ls : List Lb) (w : World) (h : LabsAt w v ls) (hl : ls.length ≤ 1000000) (hsz : Sized ls) (hT : Tabs w) :
    Calls Tryd.prog 14 #[v] w fun e w' => e = .returned (.bool (rightS ls)) ∧ Below w.heap.size w w' := by
  have hri := rising_any v ls w h hl
  obtain ⟨a, c, rfl, -, -⟩ := id h
  have HC : Hid (LabsAt w (.slice a ls.length c) ls) := h
  have HS : Hid (Sized ls) := hsz
  have HT : Hid (Tabs w) := hT
  clear h hsz hT
  by_cases h64 : ls.length ≤ 64
  · cases hrl : rl ls
    · have HN : Hid (rightS ls = false) := by show _ = _; simp [rightS, hrl]
      rw [hrl] at hri
      go_enter Tryd.func14, Tryd.ntmps14
      go_wp2_with (go_at_call 46; refine hri.mono ?_; rintro e w1 ⟨rfl, q, rfl⟩)
      go_ret
      exact ⟨ret_bool HN.out.symm, below_drewN (Below.refl _ _) q⟩
    · rw [hrl] at hri
      go_enter Tryd.func14, Tryd.ntmps14
      go_wp2_with (go_at_call 46; refine hri.mono ?_; rintro e w1 ⟨rfl, q, rfl⟩)
      go_loopw [15] (fun i wr => ∃ k : Nat, k ≤ ls.length ∧ i = .int .i64 k ∧ Hid (∀ i (h : i < ls.length), i < k → okLb ls[i] = true) ∧ Hid (Below w.heap.size w wr)) (fun i _ => ls.length - (intOf i).toNat)
      case atStart => exact ⟨0, Nat.zero_le _, rfl, fun _ _ h => absurd h (Nat.not_lt_zero _), below_drewN (Below.refl _ _) q⟩
      case round =>
        obtain ⟨k, hk, rfl, hall, hbel⟩ := hrel
        by_cases hlt : k < ls.length
        · obtain ⟨b, o, rfl, hone⟩ := HC.out.one k hlt
          obtain ⟨h0, h1⟩ := hone wr hbel.out
          clear hone
          obtain ⟨x, hx⟩ : ∃ x, x = ls[k].1 := ⟨_, rfl⟩
          obtain ⟨y, hy⟩ : ∃ y, y = ls[k].2 := ⟨_, rfl⟩
          rw [← hx] at h0
          rw [← hy] at h1
          have HX : Hid (ls[k] = (x, y)) := by show _ = _; rw [hx, hy]
          have hb2 : Below w.heap.size w (wr.alloc (.cells #[.string x, .string y] 51 (0, 0))) := hbel.out.alloc hbel.out.size _
          have hf := rightLabel_any (x, y) (wr.alloc (.cells #[.string x, .string y] 51 (0, 0))) (by rw [hy]; exact (HS.out k hlt).2) (HT.out.below hb2)
          have HB2 : Hid (∀ w', Below (wr.alloc (.cells #[.string x, .string y] 51 (0, 0))).heap.size (wr.alloc (.cells #[.string x, .string y] 51 (0, 0))) w' → Below w.heap.size w w') := fun w' hb => hb2.trans (hb.mono hb2.size)
          have HB3 : Hid (Below w.heap.size w (wr.alloc (.cells #[.string x, .string y] 51 (0, 0)))) := hb2
          clear hx hy hb2
          cases hy0 : y.toList.isEmpty
          · have hy1 : ¬ y.toList = [] := fun e => by rw [e] at hy0; cases hy0
            cases hfr : fairL (x, y)
            · have HN : Hid (rightS ls = false) := okLb_not hlt (by rw [HX.out]; simp [okLb, hfr])
              rw [hfr] at hf
              go_wp2_with (go_at_call 42; refine hf.mono ?_; rintro e w1 ⟨rfl, hb1⟩)
              go_ret
              exact ⟨ret_bool HN.out.symm, HB2.out _ hb1⟩
            · rw [hfr] at hf
              go_wp2_with (go_at_call 42; refine hf.mono ?_; rintro e w1 ⟨rfl, hb1⟩)
              go_roundw
              case rel => exact ⟨k + 1, by omega, by go_num, fun i hi hlt' => by
                rcases Nat.lt_succ_iff_lt_or_eq.1 hlt' with h1 | h1
                · exact hall.out i hi h1
                · subst h1; rw [HX.out]; simp [okLb, hfr, hy0], HB2.out _ hb1⟩
              case measure => simp [intOf]; omega
          · have hy1 : y.toList = [] := by simpa using hy0
            have HN : Hid (rightS ls = false) := okLb_not hlt (by rw [HX.out]; simp [okLb, hy0])
            clear hf
            go_wp2
            go_ret
            exact ⟨ret_bool HN.out.symm, HB3.out⟩
        · have HN : Hid (rightS ls = true) := by
            show _ = _
            unfold rightS
            rw [hrl, decide_eq_true h64, Bool.true_and, Bool.true_and, List.all_eq_true]
            intro x hx
            obtain ⟨i, hi, rfl⟩ := List.getElem_of_mem hx
            exact hall.out i hi (by omega)
          clear hall
          go_wp2
          go_ret
          exact ⟨ret_bool HN.out.symm, hbel.out⟩
  · have HN : Hid (rightS ls = false) := by show _ = _; simp [rightS, h64]
    clear hri
    go_enter Tryd.func14, Tryd.ntmps14
    go_wp2
    go_ret
    exact ⟨ret_bool HN.out.symm, Below.refl _ _⟩

end Go.Proofs.YtobkomfeojhhbaaDoor
