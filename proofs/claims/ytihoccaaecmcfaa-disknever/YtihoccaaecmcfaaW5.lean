/- A change is done to the names, and pends. -/
import Derived.Test.YtihoccaaecmcfaaW4
import Derived.Deep.RegionLaw
namespace Go.Proofs.Ytihoccaaecmcfaa
open Go.RowKit Go.Maps
open Go.WideMaps Go.WideElems

theorem info83 : (Try.prog.info? 83).map (fun i => (i.zero, i.size, i.bytes)) = some (some (.agg #[.string ByteArray.empty, .string ByteArray.empty, .pointer none]), 3, 40) := by kernel_rfl

/-- A pending change, as its three cells. -/
def chCells (c : ByteArray × ByteArray × Option Addr) : List Value := [.string c.1, .string c.2.1, .pointer c.2.2]
def chRow (l : List (ByteArray × ByteArray × Option Addr)) : List Value := l.flatMap chCells

/-- The change that lies in the block behind w's, and nothing of w has turned. -/
def Boxed (w : World) (old name : ByteArray) (p : Option Addr) (w' : World) : Prop := w'.heap[w.heap.size]? = some (.cells #[.string old, .string name, .pointer p] 83) ∧ Kept (fun _ => False) w w'
section
variable {w w' : World} {old name : ByteArray} {p : Option Addr}
theorem Boxed.start : Boxed w old name p (w.alloc (.cells #[.string old, .string name, .pointer p] 83)) := ⟨heap_alloc_new w _, (Kept.refl _ w).alloc _⟩
theorem Boxed.drew (h : Boxed w old name p w') : Boxed w old name p w'.drew := ⟨h.1, h.2.drew⟩
theorem Boxed.lt (h : Boxed w old name p w') : w.heap.size < w'.heap.size := (Array.getElem?_eq_some_iff.1 h.1).1
theorem Boxed.below (h : Boxed w old name p w') {w'' : World} (hb : Below w'.heap.size w' w'') : Boxed w old name p w'' := ⟨(hb.block _ h.lt).trans h.1, h.2.below hb⟩
theorem Boxed.set0 (h : Boxed w old name p w') : Boxed w old name p (w'.setCell ⟨w.heap.size, 0, none⟩ (.string old)) := ⟨heap_setCell_same h.1 _, h.2.setCell (fun e => absurd e (by simp)) _⟩
theorem Boxed.set1 (h : Boxed w old name p w') : Boxed w old name p (w'.setCell ⟨w.heap.size, 1, none⟩ (.string name)) := ⟨heap_setCell_same h.1 _, h.2.setCell (fun e => absurd e (by simp)) _⟩
theorem Boxed.all (h : Boxed w old name p w') : w'.cell? ⟨w.heap.size, 0, none⟩ = some (.string old) ∧ w'.cell? ⟨w.heap.size, 1, none⟩ = some (.string name) ∧ w'.cell? ⟨w.heap.size, 2, none⟩ = some (.pointer p) ∧ w'.frozen? ⟨w.heap.size, 0, none⟩ = false ∧ w'.frozen? ⟨w.heap.size, 1, none⟩ = false ∧ Boxed w old name p w' :=
  ⟨by rw [cell_of_heap h.1]; rfl, by rw [cell_of_heap h.1]; rfl, by rw [cell_of_heap h.1]; rfl, frozen_of_heap h.1, frozen_of_heap h.1, h⟩
end

theorem goOn {S G : World → Prop} {W : World} (h : S W) (k : ∀ W1, S W1 → G W1) : G W := k W h

/-- The disk and the change, both there. -/
def Mid (d : Nat) (cap used ops : Int) (nb db : Nat) (pv : Value) (fb : Nat) (stop : Int) (B : Nat) (old name : ByteArray) (p : Option Addr) (w : World) : Prop :=
  DiskAt w d cap used ops nb db pv fb stop ∧ w.heap[B]? = some (.cells #[.string old, .string name, .pointer p] 83)
theorem Mid.all {d : Nat} {cap used ops : Int} {nb db : Nat} {pv : Value} {fb : Nat} {stop : Int} {B : Nat} {old name : ByteArray} {p : Option Addr} {w : World} (h : Mid d cap used ops nb db pv fb stop B old name p w) :
    w.cell? ⟨d, 3, none⟩ = some (.map (some nb)) ∧ w.cell? ⟨B, 0, none⟩ = some (.string old) ∧ w.cell? ⟨B, 1, none⟩ = some (.string name) ∧ w.cell? ⟨B, 2, none⟩ = some (.pointer p) ∧ Mid d cap used ops nb db pv fb stop B old name p w :=
  ⟨h.1.cells.2.2.2.1, by rw [cell_of_heap h.2]; rfl, by rw [cell_of_heap h.2]; rfl, by rw [cell_of_heap h.2]; rfl, h⟩
theorem Mid.drew {d : Nat} {cap used ops : Int} {nb db : Nat} {pv : Value} {fb : Nat} {stop : Int} {B : Nat} {old name : ByteArray} {p : Option Addr} {w : World} (h : Mid d cap used ops nb db pv fb stop B old name p w) : Mid d cap used ops nb db pv fb stop B old name p w.drew := h

theorem DiskAt.grown {w w' : World} {d : Nat} {cap used ops : Int} {nb db : Nat} {pv : Value} {fb : Nat} {stop : Int} (h : DiskAt w d cap used ops nb db pv fb stop) {row : Option Nat} (g : w.grownBy w' row) (hr : row ≠ some d) : DiskAt w' d cap used ops nb db pv fb stop :=
  (g.block d h.lt (fun e => hr e.symm)).trans h

theorem chRow_snoc (l : List (ByteArray × ByteArray × Option Addr)) (old name : ByteArray) (p : Option Addr) : chRow (l ++ [(old, name, p)]) = chRow l ++ [.string old, .string name, .pointer p] := by simp [chRow, chCells]

theorem DiskAt.ne_row {w : World} {d : Nat} {cap used ops : Int} {nb db : Nat} {pv : Value} {fb : Nat} {stop : Int} (h : DiskAt w d cap used ops nb db pv fb stop) {base n size : Nat} {e : TypeId} {v : Value} {xs : List Value} (ho : w.ownsRow base e size v n xs) (he : e ≠ 69) : v.ownBlock ≠ some d := by
  intro hv
  rcases ho.2 with ⟨rfl, _⟩ | ⟨g, cap, cur, rfl, _, hg, _⟩
  · cases hv
  · simp [Value.ownBlock] at hv
    subst hv
    unfold DiskAt at h
    rw [h] at hg
    simp at hg
    exact he hg.2.symm

set_option maxRecDepth 100000 in
set_option maxHeartbeats 1000000 in
theorem apply_any (d : Nat) (cap used ops : Int) (nb db : Nat) (pv : Value) (fb : Nat) (stop : Int) (n : Nat) (N : DataW Unit) (pend : List (ByteArray × ByteArray × Option Addr)) (old name : ByteArray) (p : Option Addr) (fd : DataW Unit) (w : World)
    (hd : DiskAt w d cap used ops nb db pv fb stop) (hN : w.ownsMap Try.prog 9 fileElem nb n N) (hP : w.ownsRow 0 83 3 pv pend.length (chRow pend)) (hn : n < 1000000000) (hl : pend.length < 1000000000)
    (ho : old.size ≤ 1000000) (hm : name.size ≤ 1000000) (hp : fileElem (.pointer p) = some (fd, [])) :
    Calls Try.prog 46 #[.pointer (some ⟨d, 0, none⟩), .agg #[.string old, .string name, .pointer p]] w fun e w' => e = .returned (.tuple #[]) ∧
      ∃ pv', DiskAt w' d cap used ops nb db pv' fb stop ∧ w'.ownsMap Try.prog 9 fileElem nb (n + 1) (doD N old name fd) ∧ w'.ownsRow 0 83 3 pv' (pend.length + 1) (chRow (pend ++ [(old, name, p)])) ∧
      (pv'.ownBlock = pv.ownBlock ∨ ∃ g, pv'.ownBlock = some g ∧ w.heap.size ≤ g) ∧ Kept (fun k => k = d ∨ k = nb ∨ pv.ownBlock = some k) w w' := by
  obtain ⟨c0, c1, c2, c3, c4, c5, c6, c7, cf⟩ := hd.cells
  have hne := hd.ne_map hN
  have hlt := hd.lt
  have HP : Hid (fileElem (.pointer p) = some (fd, [])) := hp
  clear hp
  go_enter Try.func46, Try.ntmps46
  go_wp2_with fail
  go_region_held3 (fun w' => w'.cell? ⟨w.heap.size, 0, none⟩ = some (.string old) ∧ w'.cell? ⟨w.heap.size, 1, none⟩ = some (.string name) ∧ w'.cell? ⟨w.heap.size, 2, none⟩ = some (.pointer p) ∧ w'.frozen? ⟨w.heap.size, 0, none⟩ = false ∧ w'.frozen? ⟨w.heap.size, 1, none⟩ = false ∧ Boxed w old name p w')
    (first
      | (refine Boxed.all ?_; exact Boxed.start.drew)
      | (refine Boxed.all ?_; assumption)
      | (refine Boxed.all ?_; exact (‹_ ∧ _ ∧ _ ∧ _ ∧ _ ∧ Boxed w old name p _›).2.2.2.2.2.set0)
      | (refine Boxed.all ?_; exact (‹_ ∧ _ ∧ _ ∧ _ ∧ _ ∧ Boxed w old name p _›).2.2.2.2.2.set1))
    (first
      | (go_at_call_of 70 (Value.string old); have hbx := (‹_ ∧ _ ∧ _ ∧ _ ∧ _ ∧ Boxed w old name p _›).2.2.2.2.2; refine (ret_clone old _ (by omega)).mono ?_; rintro e w' ⟨rfl, hb⟩; replace hb := hbx.below hb; clear hbx)
      | (go_at_call_of 70 (Value.string name); have hbx := (‹_ ∧ _ ∧ _ ∧ _ ∧ _ ∧ Boxed w old name p _›).2.2.2.2.2; refine (ret_clone name _ (by omega)).mono ?_; rintro e w' ⟨rfl, hb⟩; replace hb := hbx.below hb; clear hbx))
  all_goals
    refine goOn (‹_ ∧ _ ∧ _ ∧ _ ∧ _ ∧ Boxed w old name p _›).2.2.2.2.2 ?_
    intro W hbx
    have hdW := hd.kept hbx.2 id
    have hNW := hbx.2.ownsMap hN id
    have hPW := hbx.2.ownsRow hP (fun _ _ => id)
    have hmid : Mid d cap used ops nb db pv fb stop w.heap.size old name p W := ⟨hdW, hbx.1⟩
    obtain ⟨m0, m1, m2, m3, m4⟩ := hmid.all
    go_wp2_with fail
    go_region_held3 (fun w' => w'.cell? ⟨d, 3, none⟩ = some (.map (some nb)) ∧ w'.cell? ⟨w.heap.size, 0, none⟩ = some (.string old) ∧ w'.cell? ⟨w.heap.size, 1, none⟩ = some (.string name) ∧ w'.cell? ⟨w.heap.size, 2, none⟩ = some (.pointer p) ∧ Mid d cap used ops nb db pv fb stop w.heap.size old name p w')
      (first | (refine Mid.all ?_; exact hmid) | (refine Mid.all ?_; assumption))
      (first | (go_at_call 71; refine (do_any nb n N old name p fd W.drew hNW.drew hn (by unfold maxLen; omega) (by unfold maxLen; omega) HP.out).mono ?_; rintro e w' ⟨rfl, hND, hk⟩; have hmid2 : Mid d cap used ops nb db pv fb stop w.heap.size old name p w' := ⟨DiskAt.kept (w := W.drew) (O := fun k => k = nb) hmid.1 hk hne, Kept.heap (w := W.drew) (O := fun k => k = nb) hk hmid.2 (fun e => by have := hN.lt; omega)⟩))
    refine goOn (S := fun W2 => Mid d cap used ops nb db pv fb stop w.heap.size old name p W2 ∧ W2.ownsMap Try.prog 9 fileElem nb (n + 1) (doD N old name fd) ∧ Kept (fun k => k = nb) W W2) ⟨hmid2, hND, ((Kept.refl (fun k => k = nb) W).drew).trans hk (fun _ _ h => h)⟩ ?_
    clear hmid2 hND hk m0 m1 m2 m3 m4
    rintro W2 ⟨hmid2, hND, hk⟩
    have hP2 := hk.ownsRow hPW (fun k hk' e => map_ne_row hNW hPW (by rw [hk', e]))
    have hl2 := hmid2.1.lt
    obtain ⟨e0, e1, e2, e3, e4, e5, e6, e7, ef⟩ := hmid2.1.cells
    obtain ⟨m0, m1, m2, m3, m4⟩ := hmid2.all
    obtain ⟨i0, hi0, hz0, hz1, hz2⟩ := info_parts info83
    have hwl : w.heap.size < W2.heap.size := (Array.getElem?_eq_some_iff.1 hmid2.2).1
    go_wp2_with fail
    go_region_law (refine step_append_lies _ (by rfl) _ _ _ (by rfl) 0 83 i0 _ 3 40 Try.underlying67 hi0 hz0 hz1 hz2 rfl (by omega) pv pend.length (chRow pend) (by rfl) ((hP2.alloc _).drew) ⟨W2.heap.size, 0, none⟩ 1 1 [.string old, .string name, .pointer p] (by rfl) (by rfl) (World.news_of_block (cs := #[.string old, .string name, .pointer p]) (t := 83) (fr := (0, 0)) (heap_alloc_new W2 _)) (by simp [Value.oneCell']) (by omega) (by unfold maxLen; omega) (by omega) (by simp) (W2.heap.size + 1) (by simp) ?_; intro gg cap2 w1 hown1 hgrow hat hlt1; have hdw1 := DiskAt.grown (w := (W2.alloc _).drew) (hmid2.1.alloc _) hgrow (hmid2.1.ne_row hP2 (by decide)); obtain ⟨q0, q1, q2, q3, q4, q5, q6, q7, qf⟩ := hdw1.cells)
    all_goals
      go_wp2
      go_end0
      have hkd : Kept (fun k => k = d) w1 (w1.setCell ⟨d, 5, none⟩ (.slice (some ⟨gg, 0, none⟩) (pend.length + 1) cap2)) := (Kept.refl (fun k => k = d) w1).setCell (fun _ => rfl) _
      refine ⟨rfl, .slice (some ⟨gg, 0, none⟩) (pend.length + 1) cap2, hdw1.set5 _, ?_, ?_, ?_, ?_⟩
      · exact hkd.ownsMap ((World.ownsMap.kept (w := (W2.alloc _).drew) (hND.alloc _) hgrow (Ne.symm (map_ne_row hND hP2)))) (fun e => hne e.symm)
      · rw [chRow_snoc]
        exact hkd.ownsRow hown1 (fun k hk' e => hdw1.ne_row hown1 (by decide) (by rw [hk', e]))
      · rcases hat with h | h
        · exact Or.inl h.symm
        · exact Or.inr ⟨gg, rfl, by omega⟩
      · have k1 : Kept (fun k => k = d ∨ k = nb ∨ pv.ownBlock = some k) w W2 := (hbx.2.mono (fun _ _ h => h.elim)).trans hk (fun _ _ h => Or.inr (Or.inl h))
        exact ((k1.alloc (.cells #[.string old, .string name, .pointer p] 83)).drew.grown hgrow (fun k _ h => Or.inr (Or.inr h))).setCell (fun _ => Or.inl rfl) _

end Go.Proofs.Ytihoccaaecmcfaa
