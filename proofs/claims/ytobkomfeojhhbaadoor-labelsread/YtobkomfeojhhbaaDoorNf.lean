/- Labels that are lent: a copy with marks in its spare room. -/
import Derived.Test.YtobkomfeojhhbaaDoorNe
namespace Go.Proofs.YtobkomfeojhhbaaDoor
open Go.RowKit Go.Maps

def marksL (k : Nat) : List Lb := (List.range k).map markB
theorem marksL_succ (k : Nat) : marksL (k + 1) = marksL k ++ [markB k] := by simp [marksL, List.range_succ]
theorem marksL_length (k : Nat) : (marksL k).length = k := by simp [marksL]
theorem row_room {w : World} {base n size g c : Nat} {e : TypeId} {xs : List Value} (ho : w.ownsRow base e size (.slice (some ⟨g, 0, none⟩) n c) n xs) : n ≤ c ∧ c ≤ maxLen := by
  rcases ho.2 with ⟨e, _⟩ | ⟨g', cap, cur, e, _, _, h1, h2, _⟩
  · cases e
  · cases e
    exact ⟨h1, h2⟩

set_option maxRecDepth 100000 in
set_option maxHeartbeats 2000000 in
theorem lendL_any (v : Value) (ls : List Lb) (w : World) (h : LabsAt w v ls) (hl : ls.length ≤ 900) :
    Calls Tryd.prog 9 #[v] w fun e w' => ∃ g c, e = .returned (.slice (some ⟨g, 0, none⟩) ls.length c) ∧ w'.ownsRow w.heap.size 51 2 (.slice (some ⟨g, 0, none⟩) (ls.length + 4) c) (ls.length + 4) (lbCells (ls ++ marksL 4)) ∧ Below w.heap.size w w' := by
  obtain ⟨a, c, rfl, hlc, -⟩ := id h
  have HL : Hid (∀ W, Below w.heap.size w W → LabsAt W (.slice a ls.length c) ls) := fun W hb => h.below hb
  have HA : Hid (Below w.heap.size w (w.alloc (.cells #[] 51))) := (Below.refl _ w).alloc (Nat.le_refl _) _
  have HE : Hid ((w.alloc (.cells #[] 51)).ownsRow w.heap.size 51 2 (.slice (some ⟨w.heap.size, 0, none⟩) 0 0) 0 []) := row_empty w _ (Nat.le_refl _)
  have HX : Hid (∀ w1, (w.alloc (.cells #[] 51)).grownBy w1 (Value.slice (some ⟨w.heap.size, 0, none⟩) 0 0).ownBlock → Below w.heap.size w w1) := fun w1 hg1 => HA.out.grown hg1 (by simp) (fun k hk => by simp [Value.ownBlock] at hk; omega)
  have HM : Hid (∀ (i : Nat) W, i < 4 → Calls Tryd.prog 41 #[.int .i64 i] W fun e w' => e = .returned (.agg #[.string (markB i).1, .string (markB i).2]) ∧ Below W.heap.size W w') := fun i W hi => mark_any i W (by omega)
  clear h
  go_enter Tryd.func9, Tryd.ntmps9
  go_wp2_with (at_builtin; refine wpList_append_labs _ rfl _ _ rfl w.heap.size (.slice (some ⟨w.heap.size, 0, none⟩) 0 0) 0 [] rfl HE.out _ ls rfl (HL.out _ HA.out) (by omega) (by simp) ?_; intro v1 w1 hr1 hg1 _; have hb1 := HX.out _ hg1; rw [Nat.zero_add, List.nil_append] at hr1)
  have HR1 : Hid (w1.ownsRow w.heap.size 51 2 v1 ls.length (lbCells ls)) := hr1
  have HB1 : Hid (Below w.heap.size w w1) := hb1
  clear hr1 hb1 hg1 HE HX HA HL
  go_loopw [3, 4] (fun vv i wr => ∃ k : Nat, k ≤ 4 ∧ i = .int .i64 k ∧ Hid (wr.ownsRow w.heap.size 51 2 vv (ls.length + k) (lbCells (ls ++ marksL k))) ∧ Hid (Below w.heap.size w wr)) (fun _ i _ => 4 - (intOf i).toNat)
  case atStart => exact ⟨0, by omega, rfl, by show World.ownsRow _ _ _ _ _ _ _; rw [show marksL 0 = [] from rfl, List.append_nil]; exact HR1.out, HB1⟩
  case round =>
    clear HR1 HB1
    obtain ⟨k, hk, rfl, hrow, hbel⟩ := hrel
    by_cases hlt : k < 4
    · obtain ⟨av, cv, hvv⟩ := slice_of_row hrow.out
      subst hvv
      have hm := HM.out k wr hlt
      have hs0 := hbel.out.size
      have HRW : Hid (∀ w1, Below wr.heap.size wr w1 → w1.ownsRow w.heap.size 51 2 (.slice av (ls.length + k) cv) (ls.length + k) (lbCells (ls ++ marksL k)) ∧ Below w.heap.size w w1) := fun w1 hb1 => ⟨row_below hrow.out hb1, hbel.out.trans (hb1.mono hbel.out.size)⟩
      have hkl : (k : Int) < 4 := by omega
      have HF : Hid (lbCells (ls ++ marksL (k + 1)) = lbCells (ls ++ marksL k) ++ lbCells [((markB k).1, (markB k).2)]) := by
        show _ = _
        rw [marksL_succ, ← List.append_assoc, lbCells_append]
      generalize (markB k).1 = m1 at *
      generalize (markB k).2 = m2 at *
      clear hrow hbel
      go_wp2_with (first
        | (go_at_call 41; refine hm.mono ?_; clear hm; rintro e w2 ⟨rfl, hb2⟩; obtain ⟨hr2, hk2⟩ := HRW.out w2 hb2; clear HRW; have hs2 := hb2.size; clear hb2)
        | (at_builtin; refine wpList_append_labs _ rfl _ _ rfl w.heap.size (.slice av (ls.length + k) cv) (ls.length + k) (lbCells (ls ++ marksL k)) rfl (hr2.alloc _) _ [(m1, m2)] rfl (LabsAt.lone (heap_alloc_new w2 _)) (by simp; omega) (by simp; omega) ?_; intro v3 w3 hr3 hg3 _))
      go_roundw
      case rel =>
        refine ⟨k + 1, by omega, by go_num, ?_, below_grown (hk2.alloc hk2.size _) (row_lo hr2) hg3⟩
        show World.ownsRow _ _ _ _ _ _ _
        rw [HF.out]
        exact hr3
      case measure => simp [intOf]; omega
    · have e4 : k = 4 := by omega
      subst e4
      obtain ⟨av, cv, hvv⟩ := slice_of_row hrow.out
      subst hvv
      obtain ⟨g, rfl⟩ := row_some hrow.out (by omega)
      obtain ⟨hc1, hc2⟩ := row_room hrow.out
      have hc3 : ls.length ≤ cv := by omega
      have hc4 : (ls.length : Int) ≤ (cv : Int) := by omega
      have HR : Hid (wr.ownsRow w.heap.size 51 2 (.slice (some ⟨g, 0, none⟩) (ls.length + 4) cv) (ls.length + 4) (lbCells (ls ++ marksL 4))) := hrow
      clear hrow HM
      go_wp2
      go_ret
      exact ⟨g, cv, rfl, HR.out, hbel.out⟩

end Go.Proofs.YtobkomfeojhhbaaDoor
