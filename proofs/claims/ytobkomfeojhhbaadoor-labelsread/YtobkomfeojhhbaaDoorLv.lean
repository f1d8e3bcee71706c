/- The program's With. -/
import Derived.Test.YtobkomfeojhhbaaDoorLl
import Derived.Test.YtobkomfeojhhbaaDoorLd
namespace Go.Proofs.YtobkomfeojhhbaaDoor
open Go.RowKit Go.Maps

def stepW (n v : ByteArray) (r : List Lb × Bool) (x : Lb) : List Lb × Bool :=
  (if (x.1.toList == n.toList) = true then (if (!r.2 && !Op.bytesLess x.1.toList n.toList) = true then r.1 ++ [(n, v)] else r.1) else (if (!r.2 && !Op.bytesLess x.1.toList n.toList) = true then r.1 ++ [(n, v)] else r.1) ++ [x], r.2 || (!r.2 && !Op.bytesLess x.1.toList n.toList))
def foldW (n v : ByteArray) (ls : List Lb) : List Lb × Bool := ls.foldl (stepW n v) ([], v.toList.isEmpty)
def withL (ls : List Lb) (n v : ByteArray) : List Lb := if (foldW n v ls).2 = true then (foldW n v ls).1 else (foldW n v ls).1 ++ [(n, v)]
theorem foldW_succ (n v : ByteArray) (ls : List Lb) (k : Nat) (hk : k < ls.length) : foldW n v (ls.take (k + 1)) = stepW n v (foldW n v (ls.take k)) ls[k] := by
  unfold foldW
  rw [List.take_succ_eq_append_getElem hk, List.foldl_append]
  rfl
theorem foldlW_length (n v : ByteArray) (ls : List Lb) : ∀ r : List Lb × Bool, (ls.foldl (stepW n v) r).1.length ≤ r.1.length + 2 * ls.length := by
  induction ls with
  | nil => intro r; simp
  | cons x t ih =>
    intro r
    rw [List.foldl_cons]
    refine Nat.le_trans (ih _) ?_
    have : (stepW n v r x).1.length ≤ r.1.length + 2 := by
      unfold stepW
      dsimp only
      split <;> split <;> simp
    rw [List.length_cons]
    omega
theorem foldW_length (n v : ByteArray) (ls : List Lb) : (foldW n v ls).1.length ≤ 2 * ls.length := by
  have := foldlW_length n v ls ([], v.toList.isEmpty)
  rw [List.length_nil, Nat.zero_add] at this
  exact this
theorem kept_block {W w1 : World} {v : Value} {g : Nat} {o : Obj} (hg : W.grownBy w1 v.ownBlock) (hlt : ∀ j, v.ownBlock = some j → j < g) (hX : W.heap[g]? = some o) : w1.heap[g]? = some o := by
  rw [hg.block g (Array.getElem?_eq_some_iff.1 hX).1 (fun e => by have := hlt g e.symm; omega)]
  exact hX
theorem row_hi {w : World} {base size n : Nat} {e : TypeId} {v : Value} {xs : List Value} (h : w.ownsRow base e size v n xs) : ∀ j, v.ownBlock = some j → j < w.heap.size := fun j hj => (h.lt j hj).2
theorem lbRow {w : World} {base k m : Nat} {v : Value} {l l' : List Lb} (h : w.ownsRow base 51 2 v (k + m) (lbCells l ++ lbCells l')) (hk : l.length = k) (hm : l'.length = m) : w.ownsRow base 51 2 v (l ++ l').length (lbCells (l ++ l')) := by
  rw [List.length_append, hk, hm, lbCells_append]
  exact h

set_option maxRecDepth 100000 in
set_option maxHeartbeats 6000000 in
theorem with_any (u : Value) (ls : List Lb) (n v : ByteArray) (w : World) (h : LabsAt w u ls) (hl : ls.length ≤ 900) :
    Calls Tryd.prog 26 #[u, .string n, .string v] w fun e w' => ∃ v', e = .returned v' ∧ w'.ownsRow w.heap.size 51 2 v' (withL ls n v).length (lbCells (withL ls n v)) ∧ Below w.heap.size w w' := by
  obtain ⟨a, c, rfl, hlc, -⟩ := id h
  have HC : Hid (LabsAt w (.slice a ls.length c) ls) := h
  obtain ⟨i0, hi0, hz0, hz1, hz2⟩ := info_parts infoLb
  clear h
  obtain ⟨w0, hmk, hown0, hgrow0⟩ := run_make_own (P := Tryd.prog) (w := w) w.heap.size 22 51 i0 _ 2 Tryd.underlying22 hi0 hz0 hz1 .i64 .i64 (ls.length + 1) (by rw [hz2]; omega) (by unfold maxLen; omega) (Nat.le_refl _)
  rw [show ((ls.length + 1 : Nat) : Int) = (ls.length : Int) + 1 from rfl] at hmk
  have hb1 : Below w.heap.size w w0 := (Below.refl _ _).grown hgrow0 (Nat.le_refl _) (fun j hj => by cases hj)
  have HR0 : Hid (w0.ownsRow w.heap.size 51 2 (.slice (some ⟨w.heap.size, 0, none⟩) 0 (ls.length + 1)) 0 []) := hown0
  have HB1 : Hid (Below w.heap.size w w0) := hb1
  clear hown0 hgrow0 hb1
  cases hv0 : v.toList.isEmpty
  all_goals
    first
      | have hv1 : v.toList = [] := by simpa using hv0
      | have hv1 : ¬ v.toList = [] := fun e => by rw [e] at hv0; cases hv0
    go_enter Tryd.func26, Tryd.ntmps26
    go_wp2
    go_loopw [7, 8, 19] (fun vo pl i wr => ∃ j : Nat, j ≤ ls.length ∧ i = .int .i64 j ∧ pl = .bool (foldW n v (ls.take j)).2 ∧ Hid (wr.ownsRow w.heap.size 51 2 vo (foldW n v (ls.take j)).1.length (lbCells (foldW n v (ls.take j)).1)) ∧ Hid (Below w.heap.size w wr)) (fun _ _ i _ => ls.length - (intOf i).toNat)
    case atStart => exact ⟨0, Nat.zero_le _, rfl, by unfold foldW; rw [List.take_zero, List.foldl_nil, hv0], HR0, HB1⟩
    case round =>
      clear HR0 HB1 hmk
      obtain ⟨j, hj, rfl, rfl, hrow, hbel⟩ := hrel
      by_cases hlt2 : j < ls.length
      · obtain ⟨b1, o, rfl, hone⟩ := HC.out.one j hlt2
        obtain ⟨h0, h1⟩ := hone _ hbel.out
        clear hone
        obtain ⟨x, hx⟩ : ∃ x, x = ls[j].1 := ⟨_, rfl⟩
        obtain ⟨y, hy⟩ : ∃ y, y = ls[j].2 := ⟨_, rfl⟩
        rw [← hx] at h0
        rw [← hy] at h1
        have hll := foldW_length n v (ls.take j)
        have hll2 : (ls.take j).length ≤ 900 := by simp; omega
        have HF : Hid (foldW n v (ls.take (j + 1)) = stepW n v (foldW n v (ls.take j)) (x, y)) := by
          show _ = _
          rw [foldW_succ n v ls j hlt2, hx, hy]
        clear hx hy
        obtain ⟨av, cv, hvo⟩ := slice_of_row hrow.out
        generalize foldW n v (ls.take j) = r at *
        obtain ⟨lv, pl⟩ := r
        dsimp only at hrow hvo hll
        have hll3 : lv.length ≤ 1800 := by omega
        clear hll hll2
        have hb2 := hbel.out
        have hs2 := hb2.size
        subst hvo
        have hX0 := heap_alloc_new wr (.cells #[.string x, .string y] 51 (0, 0))
        have hh2 := heap_two wr (.cells #[.string x, .string y] 51 (0, 0)) (.cells #[.string x, .string y] 51 (0, 0))
        have hh3 := heap_two wr (.cells #[.string x, .string y] 51 (0, 0)) (.cells #[.string n, .string v] 51 (0, 0))
        have hhi := row_hi hrow.out
        cases hless : (!pl && !Op.bytesLess x.toList n.toList)
        · have hcon : pl = true ∨ pl = false ∧ Op.bytesLess x.toList n.toList = true := by
            cases pl
            · right
              refine ⟨rfl, ?_⟩
              cases h9 : Op.bytesLess x.toList n.toList
              · rw [h9] at hless; cases hless
              · rfl
            · exact Or.inl rfl
          cases heq : (x.toList == n.toList)
          · have HF' : Hid (foldW n v (ls.take (j + 1)) = (lv ++ [(x, y)], pl)) := by
              show _ = _
              rw [HF.out]
              unfold stepW
              dsimp only
              rw [heq, hless]
              simp
            clear HF hless
            rcases hcon with rfl | ⟨rfl, hless⟩
            all_goals
              go_wp2_with (at_builtin; refine wpList_append_labs _ rfl _ _ rfl w.heap.size (.slice av lv.length cv) lv.length (lbCells lv) rfl ((hrow.out.alloc _).alloc _) _ [(x, y)] rfl (LabsAt.lone hh2) (by simp; omega) (by simp; omega) ?_; intro v' w1 hr1 hg1 _)
              go_roundw
              case rel =>
                refine ⟨j + 1, by omega, by go_num, by rw [HF'.out], ?_, ?_⟩
                · show World.ownsRow _ _ _ _ _ _ _
                  rw [HF'.out]
                  exact lbRow hr1 rfl rfl
                · have h9 : Below w.heap.size w ((wr.alloc (.cells #[.string x, .string y] 51 (0, 0))).alloc (.cells #[.string x, .string y] 51 (0, 0))) := (hb2.alloc hs2 _).alloc (by simp; omega) _
                  exact below_grown h9 (row_lo hrow.out) hg1
              case measure => simp [intOf]; omega
          · have HF' : Hid (foldW n v (ls.take (j + 1)) = (lv, pl)) := by
              show _ = _
              rw [HF.out]
              unfold stepW
              dsimp only
              rw [heq, hless]
              simp
            have HB : Hid (∀ o, Below w.heap.size w (wr.alloc o)) := fun o => hb2.alloc hs2 o
            have HRO : Hid (∀ o, (wr.alloc o).ownsRow w.heap.size 51 2 (.slice av lv.length cv) lv.length (lbCells lv)) := fun o => hrow.out.alloc o
            clear HF hb2 hless
            rcases hcon with rfl | ⟨rfl, hless⟩
            all_goals
              go_wp2
              go_roundw
              case rel => exact ⟨j + 1, by omega, by go_num, by rw [HF'.out], by show World.ownsRow _ _ _ _ _ _ _; rw [HF'.out]; exact HRO.out _, HB.out _⟩
              case measure => simp [intOf]; omega
        · have hpl : pl = false := by
            cases pl
            · rfl
            · cases hless
          subst hpl
          have hle : Op.bytesLess x.toList n.toList = false := by
            cases h9 : Op.bytesLess x.toList n.toList
            · rfl
            · rw [h9] at hless; cases hless
          have hb9 : Below w.heap.size w ((wr.alloc (.cells #[.string x, .string y] 51 (0, 0))).alloc (.cells #[.string n, .string v] 51 (0, 0))) := (hb2.alloc hs2 _).alloc (by simp; omega) _
          have HG : Hid (∀ v1 w1, w1.ownsRow w.heap.size 51 2 v1 (lv.length + [(n, v)].length) (lbCells lv ++ lbCells [(n, v)]) → ((wr.alloc (.cells #[.string x, .string y] 51 (0, 0))).alloc (.cells #[.string n, .string v] 51 (0, 0))).grownBy w1 (Value.slice av lv.length cv).ownBlock → (∃ a1 c1, v1 = .slice a1 (lv ++ [(n, v)]).length c1) ∧ w1.ownsRow w.heap.size 51 2 v1 (lv ++ [(n, v)]).length (lbCells (lv ++ [(n, v)])) ∧ Below w.heap.size w w1 ∧ w1.cell? ⟨wr.heap.size, 0, none⟩ = some (.string x) ∧ w1.cell? ⟨wr.heap.size, 1, none⟩ = some (.string y)) := fun v1 w1 hr1 hg1 => by
            have h1 := lbRow hr1 rfl rfl
            have h2 : w1.heap[wr.heap.size]? = some (.cells #[.string x, .string y] 51 (0, 0)) := kept_block hg1 hhi (by rw [heap_alloc_old _ _ (by simp)]; exact hX0)
            exact ⟨slice_of_row h1, h1, below_grown hb9 (row_lo hrow.out) hg1, World.news_of_block h2 0 _ rfl, World.news_of_block h2 1 _ rfl⟩
          cases heq : (x.toList == n.toList)
          · have HF' : Hid (foldW n v (ls.take (j + 1)) = (lv ++ [(n, v)] ++ [(x, y)], true)) := by
              show _ = _
              rw [HF.out]
              unfold stepW
              dsimp only
              rw [heq, hless]
              simp
            have hll4 : (lv ++ [(n, v)]).length ≤ 1801 := by simp; omega
            clear HF hless
            go_wp2_with (first
              | (at_builtin; refine wpList_append_labs _ rfl _ _ rfl w.heap.size (.slice av lv.length cv) lv.length (lbCells lv) rfl ((hrow.out.alloc _).alloc _) _ [(n, v)] rfl (LabsAt.lone hh3) (by simp; omega) (by simp; omega) ?_; intro v1 w1 hr1 hg1 _; obtain ⟨⟨a1, c1, rfl⟩, hr1, hb1, d0, d1⟩ := HG.out v1 w1 hr1 hg1; have hs1 := hb1.size; clear hrow hbel HG hh3 hg1 hb9 hX0 hhi; generalize lv ++ [(n, v)] = lw at *)
              | (at_builtin; refine wpList_append_labs _ rfl _ _ rfl w.heap.size (.slice a1 lw.length c1) lw.length (lbCells lw) rfl (hr1.alloc _) _ [(x, y)] rfl (LabsAt.lone (heap_alloc_new w1 _)) (by simp; omega) (by simp; omega) ?_; intro v2 w2 hr2 hg2 _))
            go_roundw
            case rel =>
              refine ⟨j + 1, by omega, by go_num, by rw [HF'.out], ?_, ?_⟩
              · show World.ownsRow _ _ _ _ _ _ _
                rw [HF'.out]
                exact lbRow hr2 rfl rfl
              · exact below_grown (hb1.alloc hs1 _) (row_lo hr1) hg2
            case measure => simp [intOf]; omega
          · have HF' : Hid (foldW n v (ls.take (j + 1)) = (lv ++ [(n, v)], true)) := by
              show _ = _
              rw [HF.out]
              unfold stepW
              dsimp only
              rw [heq, hless]
              simp
            clear HF hless
            go_wp2_with (at_builtin; refine wpList_append_labs _ rfl _ _ rfl w.heap.size (.slice av lv.length cv) lv.length (lbCells lv) rfl ((hrow.out.alloc _).alloc _) _ [(n, v)] rfl (LabsAt.lone hh3) (by simp; omega) (by simp; omega) ?_; intro v1 w1 hr1 hg1 _; obtain ⟨⟨a1, c1, rfl⟩, hr1, hb1, d0, d1⟩ := HG.out v1 w1 hr1 hg1; clear hrow hbel HG hh3 hg1 hb9 hX0 hhi; generalize lv ++ [(n, v)] = lw at *)
            go_roundw
            case rel => exact ⟨j + 1, by omega, by go_num, by rw [HF'.out], by show World.ownsRow _ _ _ _ _ _ _; rw [HF'.out]; exact hr1, hb1⟩
            case measure => simp [intOf]; omega
      · have hrow' := hrow.out
        rw [List.take_of_length_le (by omega)] at hrow' ⊢
        have hll := foldW_length n v ls
        have HW : Hid (withL ls n v = if (foldW n v ls).2 = true then (foldW n v ls).1 else (foldW n v ls).1 ++ [(n, v)]) := rfl
        have hb2 := hbel.out
        have hs2 := hb2.size
        generalize foldW n v ls = r at *
        obtain ⟨lv, pl⟩ := r
        dsimp only at hrow' hll
        obtain ⟨av, cv, rfl⟩ := slice_of_row hrow'
        clear hrow hbel HC
        cases pl
        · have HW' : Hid (withL ls n v = lv ++ [(n, v)]) := by show _ = _; rw [HW.out]; simp
          go_wp2_with (at_builtin; refine wpList_append_labs _ rfl _ _ rfl w.heap.size (.slice av lv.length cv) lv.length (lbCells lv) rfl (hrow'.alloc _) _ [(n, v)] rfl (LabsAt.lone (heap_alloc_new wr _)) (by simp; omega) (by simp; omega) ?_; intro v1 w1 hr1 hg1 _; obtain ⟨a1, c1, rfl⟩ := slice_of_row hr1)
          go_ret
          refine ⟨_, rfl, ?_, below_grown (hb2.alloc hs2 _) (row_lo hrow') hg1⟩
          rw [HW'.out]
          exact lbRow hr1 rfl rfl
        · have HW' : Hid (withL ls n v = lv) := by show _ = _; rw [HW.out]; simp
          go_wp2
          go_ret
          refine ⟨_, rfl, ?_, hb2⟩
          rw [HW'.out]
          exact hrow'

end Go.Proofs.YtobkomfeojhhbaaDoor
