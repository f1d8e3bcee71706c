/- The labels whose names are among some, or are not. -/
import Derived.Test.YtobkomfeojhhbaaDoorTx
import Derived.Test.YtobkomfeojhhbaaDoorLd
import Derived.Test.YtobkomfeojhhbaaDoorLl
import Derived.Shelf.Slices.Turned
namespace Go.Proofs.YtobkomfeojhhbaaDoor
open Go.RowKit Go.Maps

theorem contains_any (v : Value) (ns : List ByteArray) (x : ByteArray) (w : World) (h : TextsAt w v ns) : Calls Tryd.prog 74 #[v, .string x] w fun e w' => e = .returned (.bool (Lib.containsS ns x)) ∧ w' = w := by
  obtain ⟨a, c, rfl, hlc, hk⟩ := h
  cases ns with
  | nil => exact Any.slices_Contains_string_empty Tryd.lays110 a c x w
  | cons n t =>
    obtain ⟨b, o, rfl, -, -, -⟩ := hk 0 (by simp)
    have hm : (n :: t).length ≤ 9223372036854775807 := by have h1 := hlc; unfold maxLen at h1; omega
    have h1 := Any.slices_Contains_string Tryd.lays110 b o (n :: t).length c (n :: t) x w (Nat.le_refl _) hm (fun j hj => by
      obtain ⟨b', o', e, -, hc, -⟩ := hk j hj
      cases e
      rw [hc, List.getD_eq_getElem?_getD, List.getElem?_eq_getElem hj]
      rfl)
    rw [List.take_length] at h1
    exact h1

def chosenL (ls : List Lb) (ns : List ByteArray) (b : Bool) : List Lb := ls.filter fun x => Lib.containsS ns x.1 == b
theorem chosenL_succ (ls : List Lb) (ns : List ByteArray) (b : Bool) (k : Nat) (hk : k < ls.length) : chosenL (ls.take (k + 1)) ns b = chosenL (ls.take k) ns b ++ (if (Lib.containsS ns ls[k].1 == b) = true then [ls[k]] else []) := by
  unfold chosenL
  rw [List.take_succ_eq_append_getElem hk, List.filter_append]
  congr 1
  cases h : (Lib.containsS ns ls[k].1 == b) <;> simp [h]
theorem chosenL_length (ls : List Lb) (ns : List ByteArray) (b : Bool) : (chosenL ls ns b).length ≤ ls.length := List.length_filter_le _ _

set_option maxRecDepth 100000 in
set_option maxHeartbeats 3000000 in
theorem chosen_any (v u : Value) (ls : List Lb) (ns : List ByteArray) (b : Bool) (w : World) (h : LabsAt w v ls) (hl : ls.length ≤ 900) (hn : TextsAt w u ns) :
    Calls Tryd.prog 56 #[v, u, .bool b] w fun e w' => ∃ v', e = .returned v' ∧ w'.ownsRow w.heap.size 51 2 v' (chosenL ls ns b).length (lbCells (chosenL ls ns b)) ∧ Below w.heap.size w w' := by
  obtain ⟨a, c, rfl, hlc, -⟩ := id h
  obtain ⟨an, cn, rfl, -, -⟩ := id hn
  have HC : Hid (LabsAt w (.slice a ls.length c) ls) := h
  have HN : Hid (∀ x W, Below w.heap.size w W → Calls Tryd.prog 74 #[.slice an ns.length cn, .string x] W fun e w' => e = .returned (.bool (Lib.containsS ns x)) ∧ w' = W) := fun x W hW => contains_any _ ns x W (hn.below hW)
  obtain ⟨i0, hi0, hz0, hz1, hz2⟩ := info_parts infoLb
  clear h hn
  obtain ⟨w0, hmk, hown0, hgrow0⟩ := run_make_own (P := Tryd.prog) (w := w) w.heap.size 22 51 i0 _ 2 Tryd.underlying22 hi0 hz0 hz1 .i64 .i64 ls.length (by rw [hz2]; omega) (by unfold maxLen; omega) (Nat.le_refl _)
  have hb1 : Below w.heap.size w w0 := (Below.refl _ _).grown hgrow0 (Nat.le_refl _) (fun j hj => by cases hj)
  have HR0 : Hid (w0.ownsRow w.heap.size 51 2 (.slice (some ⟨w.heap.size, 0, none⟩) 0 ls.length) 0 []) := hown0
  have HB1 : Hid (Below w.heap.size w w0) := hb1
  clear hown0 hgrow0 hb1
  go_enter Tryd.func56, Tryd.ntmps56
  go_wp2
  go_loopw [7, 15] (fun vo i wr => ∃ j : Nat, j ≤ ls.length ∧ i = .int .i64 j ∧ Hid (wr.ownsRow w.heap.size 51 2 vo (chosenL (ls.take j) ns b).length (lbCells (chosenL (ls.take j) ns b))) ∧ Hid (Below w.heap.size w wr)) (fun _ i _ => ls.length - (intOf i).toNat)
  case atStart => exact ⟨0, Nat.zero_le _, rfl, HR0, HB1⟩
  case round =>
    clear HR0 HB1 hmk
    obtain ⟨j, hj, rfl, hrow, hbel⟩ := hrel
    by_cases hlt2 : j < ls.length
    · obtain ⟨b1, o, rfl, hone⟩ := HC.out.one j hlt2
      obtain ⟨h0, h1⟩ := hone _ hbel.out
      clear hone
      obtain ⟨x, hx⟩ : ∃ x, x = ls[j].1 := ⟨_, rfl⟩
      obtain ⟨y, hy⟩ : ∃ y, y = ls[j].2 := ⟨_, rfl⟩
      rw [← hx] at h0
      rw [← hy] at h1
      have HF : Hid (chosenL (ls.take (j + 1)) ns b = chosenL (ls.take j) ns b ++ (if (Lib.containsS ns x == b) = true then [(x, y)] else [])) := by
        show _ = _
        rw [chosenL_succ ls ns b j hlt2, hx, hy]
      have hll : (chosenL (ls.take j) ns b).length ≤ j := Nat.le_trans (chosenL_length _ _ _) (by simp; omega)
      clear hx hy
      obtain ⟨av, cv, hvo⟩ := slice_of_row hrow.out
      generalize chosenL (ls.take j) ns b = lv at *
      have hb2 := hbel.out
      have hs2 := hb2.size
      have hcon := HN.out x (wr.alloc (.cells #[.string x, .string y] 51 (0, 0))) (hb2.alloc hs2 _)
      generalize Lib.containsS ns x = cx at *
      subst hvo
      cases hc : (cx == b)
      · have HF' : Hid (chosenL (ls.take (j + 1)) ns b = lv) := by
          show _ = _
          rw [HF.out, hc]
          simp
        have HB : Hid (∀ o, Below w.heap.size w (wr.alloc o)) := fun o => hb2.alloc hs2 o
        have HRO : Hid (∀ o, (wr.alloc o).ownsRow w.heap.size 51 2 (.slice av lv.length cv) lv.length (lbCells lv)) := fun o => hrow.out.alloc o
        clear HF hb2
        go_wp2_with (go_at_call 74; refine hcon.mono ?_; rintro e w1 ⟨rfl, rfl⟩)
        go_roundw
        case rel => exact ⟨j + 1, by omega, by go_num, by show World.ownsRow _ _ _ _ _ _ _; rw [HF'.out]; exact HRO.out _, HB.out _⟩
        case measure => simp [intOf]; omega
      · have HF' : Hid (chosenL (ls.take (j + 1)) ns b = lv ++ [(x, y)]) := by
          show _ = _
          rw [HF.out, hc]
          simp
        clear HF
        have hh2 := heap_two wr (.cells #[.string x, .string y] 51 (0, 0)) (.cells #[.string x, .string y] 51 (0, 0))
        go_wp2_with (first
          | (go_at_call 74; refine hcon.mono ?_; rintro e w1 ⟨rfl, rfl⟩)
          | (at_builtin; refine wpList_append_labs _ rfl _ _ rfl w.heap.size (.slice av lv.length cv) lv.length (lbCells lv) rfl ((hrow.out.alloc _).alloc _) _ [(x, y)] rfl (LabsAt.lone hh2) (by simp; omega) (by simp; omega) ?_; intro v' w1 hr1 hg1 _))
        go_roundw
        case rel =>
          refine ⟨j + 1, by omega, by go_num, ?_, ?_⟩
          · have e9 : lbCells (chosenL (ls.take (j + 1)) ns b) = lbCells lv ++ lbCells [(x, y)] := by rw [HF'.out, lbCells_append]
            have e8 : (chosenL (ls.take (j + 1)) ns b).length = lv.length + [(x, y)].length := by rw [HF'.out, List.length_append]
            show World.ownsRow _ _ _ _ _ _ _
            rw [e9, e8]
            exact hr1
          · have h9 : Below w.heap.size w ((wr.alloc (.cells #[.string x, .string y] 51 (0, 0))).alloc (.cells #[.string x, .string y] 51 (0, 0))) := (hb2.alloc hs2 _).alloc (by simp; omega) _
            exact below_grown h9 (row_lo hrow.out) hg1
        case measure => simp [intOf]; omega
    · have hrow' := hrow.out
      rw [List.take_of_length_le (by omega)] at hrow'
      have HB : Hid (Below w.heap.size w wr) := hbel
      clear hrow hbel HC HN
      go_wp2
      go_ret
      exact ⟨_, rfl, hrow', HB.out⟩

theorem only_any (v u : Value) (ls : List Lb) (ns : List ByteArray) (w : World) (h : LabsAt w v ls) (hl : ls.length ≤ 900) (hn : TextsAt w u ns) :
    Calls Tryd.prog 20 #[v, u] w fun e w' => ∃ v', e = .returned v' ∧ w'.ownsRow w.heap.size 51 2 v' (chosenL ls ns true).length (lbCells (chosenL ls ns true)) ∧ Below w.heap.size w w' := by
  have hc := chosen_any v u ls ns true w h hl hn
  obtain ⟨a, c, rfl, -, -⟩ := id h
  obtain ⟨an, cn, rfl, -, -⟩ := id hn
  clear h hn
  go_enter Tryd.func20, Tryd.ntmps20
  go_wp2_with (go_at_call 56; refine hc.mono ?_; rintro e w1 ⟨v1, rfl, hr1, hb1⟩; obtain ⟨a1, c1, rfl⟩ := slice_of_row hr1)
  go_ret
  exact ⟨_, rfl, hr1, hb1⟩
theorem but_any (v u : Value) (ls : List Lb) (ns : List ByteArray) (w : World) (h : LabsAt w v ls) (hl : ls.length ≤ 900) (hn : TextsAt w u ns) :
    Calls Tryd.prog 21 #[v, u] w fun e w' => ∃ v', e = .returned v' ∧ w'.ownsRow w.heap.size 51 2 v' (chosenL ls ns false).length (lbCells (chosenL ls ns false)) ∧ Below w.heap.size w w' := by
  have hc := chosen_any v u ls ns false w h hl hn
  obtain ⟨a, c, rfl, -, -⟩ := id h
  obtain ⟨an, cn, rfl, -, -⟩ := id hn
  clear h hn
  go_enter Tryd.func21, Tryd.ntmps21
  go_wp2_with (go_at_call 56; refine hc.mono ?_; rintro e w1 ⟨v1, rfl, hr1, hb1⟩; obtain ⟨a1, c1, rfl⟩ := slice_of_row hr1)
  go_ret
  exact ⟨_, rfl, hr1, hb1⟩

end Go.Proofs.YtobkomfeojhhbaaDoor
