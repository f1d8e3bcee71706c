/- The document's Only and But. -/
import Derived.Test.YtobkomfeojhhbaaDoorLu
import Derived.Test.YtobkomfeojhhbaaDoorLpa
namespace Go.Proofs.YtobkomfeojhhbaaDoor
open Go.RowKit Go.Maps

set_option maxRecDepth 100000 in
set_option maxHeartbeats 1500000 in
theorem among_any (v : Value) (ns : List ByteArray) (x : ByteArray) (w : World) (h : TextsAt w v ns) : Calls Tryd.prog 57 #[v, .string x] w fun e w' => e = .returned (.bool (Lib.containsS ns x)) ∧ w' = w := by
  obtain ⟨a, c, rfl, hlc, -⟩ := id h
  have hmx : ns.length ≤ 9223372036854775807 := by have h1 := hlc; unfold maxLen at h1; omega
  have HC : Hid (TextsAt w (.slice a ns.length c) ns) := h
  clear h
  go_enter Tryd.func57, Tryd.ntmps57
  go_wp2
  go_loopw [5] (fun i wr => ∃ k : Nat, k ≤ ns.length ∧ i = .int .i64 k ∧ wr = w ∧ Hid (∀ i (h : i < ns.length), i < k → ns[i] ≠ x)) (fun i _ => ns.length - (intOf i).toNat)
  case atStart => exact ⟨0, Nat.zero_le _, rfl, rfl, fun _ _ h => absurd h (Nat.not_lt_zero _)⟩
  case round =>
    obtain ⟨k, hk, rfl, rfl, hall⟩ := hrel
    by_cases hlt : k < ns.length
    · obtain ⟨b, o, rfl, -, hone⟩ := HC.out.one k hlt
      have g0 := hone wr (Below.refl _ _)
      clear hone
      obtain ⟨y, hy⟩ : ∃ y, y = ns[k] := ⟨_, rfl⟩
      rw [← hy] at g0
      have HY : Hid (ns[k] = y) := hy.symm
      clear hy
      have hkl : (k : Int) < (ns.length : Int) := by omega
      cases hxy : (y.toList == x.toList)
      · have HN : Hid (∀ i (h : i < ns.length), i < k + 1 → ns[i] ≠ x) := fun i hi h1 => by
          rcases Nat.lt_succ_iff_lt_or_eq.1 h1 with h9 | h9
          · exact hall.out i hi h9
          · subst h9
            rw [HY.out]
            intro e
            rw [e] at hxy
            simp at hxy
        go_wp2
        go_roundw
        case rel => exact ⟨k + 1, by omega, by go_num, by trivial, HN⟩
        case measure => simp [intOf]; omega
      · have HN : Hid (Lib.containsS ns x = true) := by
          show _ = _
          rw [Lib.containsS_iff]
          have e : y = x := toList_inj (by simpa using hxy)
          rw [← e, ← HY.out]
          exact List.getElem_mem hlt
        go_wp2
        go_ret
        exact ⟨ret_bool HN.out.symm, rfl⟩
    · have HN : Hid (Lib.containsS ns x = false) := by
        show _ = _
        rw [Bool.eq_false_iff]
        intro h1
        rw [Lib.containsS_iff] at h1
        obtain ⟨i, hi, e⟩ := List.getElem_of_mem h1
        exact hall.out i hi (by omega) e
      clear hall HC
      go_wp2
      go_ret
      exact ⟨ret_bool HN.out.symm, rfl⟩

set_option maxRecDepth 100000 in
set_option maxHeartbeats 3000000 in
theorem refOnly_any (v u : Value) (ls : List Lb) (ns : List ByteArray) (w : World) (h : LabsAt w v ls) (hl : ls.length ≤ 900) (hn : TextsAt w u ns) :
    Calls Tryd.prog 22 #[v, u] w fun e w' => ∃ v', e = .returned v' ∧ w'.ownsRow w.heap.size 51 2 v' (chosenL ls ns true).length (lbCells (chosenL ls ns true)) ∧ Below w.heap.size w w' := by
  obtain ⟨a, c, rfl, hlc, -⟩ := id h
  obtain ⟨an, cn, rfl, -, -⟩ := id hn
  have HC : Hid (LabsAt w (.slice a ls.length c) ls) := h
  have HN : Hid (∀ x W, Below w.heap.size w W → Calls Tryd.prog 57 #[.slice an ns.length cn, .string x] W fun e w' => e = .returned (.bool (Lib.containsS ns x)) ∧ w' = W) := fun x W hW => among_any _ ns x W (hn.below hW)
  clear h hn
  go_enter Tryd.func22, Tryd.ntmps22
  go_wp2
  go_loopw [5, 6] (fun vo i wr => ∃ j : Nat, j ≤ ls.length ∧ i = .int .i64 j ∧ Hid (wr.ownsRow w.heap.size 51 2 vo (chosenL (ls.take j) ns true).length (lbCells (chosenL (ls.take j) ns true))) ∧ Hid (Below w.heap.size w wr)) (fun _ i _ => ls.length - (intOf i).toNat)
  case atStart => exact ⟨0, Nat.zero_le _, rfl, World.ownsRow_nil _ _ _ _, Below.refl _ _⟩
  case round =>
    obtain ⟨j, hj, rfl, hrow, hbel⟩ := hrel
    by_cases hlt2 : j < ls.length
    · obtain ⟨b1, o, rfl, hone⟩ := HC.out.one j hlt2
      obtain ⟨h0, h1⟩ := hone _ hbel.out
      clear hone
      obtain ⟨x, hx⟩ : ∃ x, x = ls[j].1 := ⟨_, rfl⟩
      obtain ⟨y, hy⟩ : ∃ y, y = ls[j].2 := ⟨_, rfl⟩
      rw [← hx] at h0
      rw [← hy] at h1
      have HF : Hid (chosenL (ls.take (j + 1)) ns true = chosenL (ls.take j) ns true ++ (if (Lib.containsS ns x == true) = true then [(x, y)] else [])) := by
        show _ = _
        rw [chosenL_succ ls ns true j hlt2, hx, hy]
      have hll : (chosenL (ls.take j) ns true).length ≤ j := Nat.le_trans (chosenL_length _ _ _) (by simp; omega)
      clear hx hy
      obtain ⟨av, cv, hvo⟩ := slice_of_row hrow.out
      generalize chosenL (ls.take j) ns true = lv at *
      have hb2 := hbel.out
      have hs2 := hb2.size
      have hcon := HN.out x wr hb2
      have hjl : (j : Int) < (ls.length : Int) := by omega
      generalize Lib.containsS ns x = cx at *
      subst hvo
      cases cx
      · have HF' : Hid (chosenL (ls.take (j + 1)) ns true = lv) := by
          show _ = _
          rw [HF.out]
          simp
        clear HF
        go_wp2_with (go_at_call 57; refine hcon.mono ?_; rintro e w1 ⟨rfl, rfl⟩)
        go_roundw
        case rel => exact ⟨j + 1, by omega, by go_num, by show World.ownsRow _ _ _ _ _ _ _; rw [HF'.out]; exact hrow.out, hb2⟩
        case measure => simp [intOf]; omega
      · have HF' : Hid (chosenL (ls.take (j + 1)) ns true = lv ++ [(x, y)]) := by
          show _ = _
          rw [HF.out]
          simp
        clear HF
        go_wp2_with (first
          | (go_at_call 57; refine hcon.mono ?_; rintro e w1 ⟨rfl, rfl⟩)
          | (at_builtin; refine wpList_append_labs _ rfl _ _ rfl w.heap.size (.slice av lv.length cv) lv.length (lbCells lv) rfl (hrow.out.alloc _) _ [(x, y)] rfl (LabsAt.lone (heap_alloc_new _ _)) (by simp; omega) (by simp; omega) ?_; intro v' w1 hr1 hg1 _))
        go_roundw
        case rel =>
          refine ⟨j + 1, by omega, by go_num, ?_, below_grown (hb2.alloc hs2 _) (row_lo hrow.out) hg1⟩
          have e9 : lbCells (chosenL (ls.take (j + 1)) ns true) = lbCells lv ++ lbCells [(x, y)] := by rw [HF'.out, lbCells_append]
          have e8 : (chosenL (ls.take (j + 1)) ns true).length = lv.length + [(x, y)].length := by rw [HF'.out, List.length_append]
          show World.ownsRow _ _ _ _ _ _ _
          rw [e9, e8]
          exact hr1
        case measure => simp [intOf]; omega
    · have hrow' := hrow.out
      rw [List.take_of_length_le (by omega)] at hrow'
      have HB : Hid (Below w.heap.size w wr) := hbel
      obtain ⟨av, cv, rfl⟩ := slice_of_row hrow'
      clear hrow hbel HC HN
      go_wp2
      go_ret
      exact ⟨_, rfl, hrow', HB.out⟩

set_option maxRecDepth 100000 in
set_option maxHeartbeats 3000000 in
theorem refBut_any (v u : Value) (ls : List Lb) (ns : List ByteArray) (w : World) (h : LabsAt w v ls) (hl : ls.length ≤ 900) (hn : TextsAt w u ns) :
    Calls Tryd.prog 23 #[v, u] w fun e w' => ∃ v', e = .returned v' ∧ w'.ownsRow w.heap.size 51 2 v' (chosenL ls ns false).length (lbCells (chosenL ls ns false)) ∧ Below w.heap.size w w' := by
  obtain ⟨a, c, rfl, hlc, -⟩ := id h
  obtain ⟨an, cn, rfl, -, -⟩ := id hn
  have HC : Hid (LabsAt w (.slice a ls.length c) ls) := h
  have HN : Hid (∀ x W, Below w.heap.size w W → Calls Tryd.prog 57 #[.slice an ns.length cn, .string x] W fun e w' => e = .returned (.bool (Lib.containsS ns x)) ∧ w' = W) := fun x W hW => among_any _ ns x W (hn.below hW)
  clear h hn
  go_enter Tryd.func23, Tryd.ntmps23
  go_wp2
  go_loopw [5, 6] (fun vo i wr => ∃ j : Nat, j ≤ ls.length ∧ i = .int .i64 j ∧ Hid (wr.ownsRow w.heap.size 51 2 vo (chosenL (ls.take j) ns false).length (lbCells (chosenL (ls.take j) ns false))) ∧ Hid (Below w.heap.size w wr)) (fun _ i _ => ls.length - (intOf i).toNat)
  case atStart => exact ⟨0, Nat.zero_le _, rfl, World.ownsRow_nil _ _ _ _, Below.refl _ _⟩
  case round =>
    obtain ⟨j, hj, rfl, hrow, hbel⟩ := hrel
    by_cases hlt2 : j < ls.length
    · obtain ⟨b1, o, rfl, hone⟩ := HC.out.one j hlt2
      obtain ⟨h0, h1⟩ := hone _ hbel.out
      clear hone
      obtain ⟨x, hx⟩ : ∃ x, x = ls[j].1 := ⟨_, rfl⟩
      obtain ⟨y, hy⟩ : ∃ y, y = ls[j].2 := ⟨_, rfl⟩
      rw [← hx] at h0
      rw [← hy] at h1
      have HF : Hid (chosenL (ls.take (j + 1)) ns false = chosenL (ls.take j) ns false ++ (if (Lib.containsS ns x == false) = true then [(x, y)] else [])) := by
        show _ = _
        rw [chosenL_succ ls ns false j hlt2, hx, hy]
      have hll : (chosenL (ls.take j) ns false).length ≤ j := Nat.le_trans (chosenL_length _ _ _) (by simp; omega)
      clear hx hy
      obtain ⟨av, cv, hvo⟩ := slice_of_row hrow.out
      generalize chosenL (ls.take j) ns false = lv at *
      have hb2 := hbel.out
      have hs2 := hb2.size
      have hcon := HN.out x wr hb2
      have hjl : (j : Int) < (ls.length : Int) := by omega
      generalize Lib.containsS ns x = cx at *
      subst hvo
      cases cx
      · have HF' : Hid (chosenL (ls.take (j + 1)) ns false = lv ++ [(x, y)]) := by
          show _ = _
          rw [HF.out]
          simp
        clear HF
        go_wp2_with (first
          | (go_at_call 57; refine hcon.mono ?_; rintro e w1 ⟨rfl, rfl⟩)
          | (at_builtin; refine wpList_append_labs _ rfl _ _ rfl w.heap.size (.slice av lv.length cv) lv.length (lbCells lv) rfl (hrow.out.alloc _) _ [(x, y)] rfl (LabsAt.lone (heap_alloc_new _ _)) (by simp; omega) (by simp; omega) ?_; intro v' w1 hr1 hg1 _))
        go_roundw
        case rel =>
          refine ⟨j + 1, by omega, by go_num, ?_, below_grown (hb2.alloc hs2 _) (row_lo hrow.out) hg1⟩
          have e9 : lbCells (chosenL (ls.take (j + 1)) ns false) = lbCells lv ++ lbCells [(x, y)] := by rw [HF'.out, lbCells_append]
          have e8 : (chosenL (ls.take (j + 1)) ns false).length = lv.length + [(x, y)].length := by rw [HF'.out, List.length_append]
          show World.ownsRow _ _ _ _ _ _ _
          rw [e9, e8]
          exact hr1
        case measure => simp [intOf]; omega
      · have HF' : Hid (chosenL (ls.take (j + 1)) ns false = lv) := by
          show _ = _
          rw [HF.out]
          simp
        clear HF
        go_wp2_with (go_at_call 57; refine hcon.mono ?_; rintro e w1 ⟨rfl, rfl⟩)
        go_roundw
        case rel => exact ⟨j + 1, by omega, by go_num, by show World.ownsRow _ _ _ _ _ _ _; rw [HF'.out]; exact hrow.out, hb2⟩
        case measure => simp [intOf]; omega
    · have hrow' := hrow.out
      rw [List.take_of_length_le (by omega)] at hrow'
      have HB : Hid (Below w.heap.size w wr) := hbel
      obtain ⟨av, cv, rfl⟩ := slice_of_row hrow'
      clear hrow hbel HC HN
      go_wp2
      go_ret
      exact ⟨_, rfl, hrow', HB.out⟩

end Go.Proofs.YtobkomfeojhhbaaDoor
