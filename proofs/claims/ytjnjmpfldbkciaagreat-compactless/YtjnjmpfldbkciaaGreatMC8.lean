/- What is left: the document's Less. -/
import Derived.Test.YtjnjmpfldbkciaaGreatMC5
import Derived.Test.YtjnjmpfldbkciaaGreatC1
namespace Go.Proofs.YtjnjmpfldbkciaaGreat
open Go.RowKit Go.Maps

def hitG (L : List Lb) (t : Int) (g : PG) : Bool := decide (g.1 = L) && (decide (g.2.1 ≤ t) && decide (t ≤ g.2.2))
def hitR (gone : List PG) (L : List Lb) (t : Int) : Bool := gone.any (hitG L t)
theorem hitR_cov {gone : List PG} {L : List Lb} {t : Int} : hitR gone L t = true ↔ Cov gone L t := by
  unfold hitR Cov hitG
  rw [List.any_eq_true]
  simp only [Bool.and_eq_true, decide_eq_true_eq]
def leftR (gone : List PG) (L : List Lb) (ss : List Sm) : List Sm := ss.filter fun x => !hitR gone L x.1
def lessO (gone : List PG) (s : PS) : Option PS := if leftR gone s.1 s.2 = [] then none else some (s.1, leftR gone s.1 s.2)
def lessF (l : List PS) (gone : List PG) : List PS := l.filterMap (lessO gone)
theorem lessF_same {l : List PS} {g g' : List PG} (h : ∀ L t, Cov g L t ↔ Cov g' L t) : lessF l g = lessF l g' := by
  have h1 : hitR g = hitR g' := by
    funext L t
    rw [Bool.eq_iff_iff, hitR_cov, hitR_cov, h]
  unfold lessF lessO leftR
  rw [h1]
theorem lessF_take (l : List PS) (gone : List PG) (k : Nat) (hk : k < l.length) : lessF (l.take (k + 1)) gone = lessF (l.take k) gone ++ (lessO gone l[k]).toList := by
  unfold lessF
  rw [List.take_succ_eq_append_getElem hk, List.filterMap_append]
  congr 1
theorem leftR_take (gone : List PG) (L : List Lb) (ss : List Sm) (j : Nat) (hj : j < ss.length) : leftR gone L (ss.take (j + 1)) = leftR gone L (ss.take j) ++ (if hitR gone L ss[j].1 = true then [] else [ss[j]]) := by
  unfold leftR
  rw [List.take_succ_eq_append_getElem hj, List.filter_append]
  congr 1
  cases h : hitR gone L ss[j].1 <;> simp [h]
theorem hitR_take (gone : List PG) (L : List Lb) (t : Int) (j : Nat) (hj : j < gone.length) : hitR (gone.take (j + 1)) L t = (hitR (gone.take j) L t || hitG L t gone[j]) := by
  unfold hitR
  rw [List.take_succ_eq_append_getElem hj, List.any_append]
  simp
theorem lessF_len (l : List PS) (gone : List PG) : (lessF l gone).length ≤ l.length := List.length_filterMap_le _ _
theorem leftR_len (gone : List PG) (L : List Lb) (ss : List Sm) : (leftR gone L ss).length ≤ ss.length := List.length_filter_le _ _

/-- What is made of one series, in its box. -/
structure LSt (w W : World) (sv : Value) (out : List Sr) (X : Nat) (lv : Value) (q : List Sm) (qv : Value) : Prop where
  srow : SRow w W sv out
  old : ∀ s ∈ out, SmAt w s.sv s.ss ∨ (W.ownsRow w.heap.size 42 2 s.sv s.ss.length (smC s.ss) ∧ ∀ k, s.sv.ownBlock = some k → k < X)
  box : W.heap[X]? = some (.cells #[lv, qv] 36)
  samp : W.ownsRow X 42 2 qv q.length (smC q)
  lo : w.heap.size ≤ X
  ap : ∀ k, sv.ownBlock = some k → k ≠ X
theorem LSt.start {w W : World} {sv : Value} {out : List Sr} (h : SRow w W sv out) (lv : Value) : LSt w (W.alloc (.cells #[lv, .slice none 0 0] 36)) sv out W.heap.size lv [] (.slice none 0 0) := by
  have hb : Below W.heap.size W (W.alloc (.cells #[lv, .slice none 0 0] 36)) := (Below.refl _ W).alloc (Nat.le_refl _) _
  refine ⟨h.below hb, fun s hs => ?_, heap_alloc_new W _, ⟨rfl, Or.inl ⟨rfl, rfl⟩⟩, h.bel.size, fun k e1 e2 => ?_⟩
  · rcases (h.ok s hs).smp with h1 | h1
    · exact Or.inl h1
    · exact Or.inr ⟨row_below h1 hb, fun k e => (h1.lt k e).2⟩
  · have := (h.row.lt k e1).2
    omega
section
variable {w W : World} {sv : Value} {out : List Sr} {X : Nat} {lv : Value} {q : List Sm} {qv : Value} (h : LSt w W sv out X lv q qv)
include h
theorem LSt.below {W' : World} (hb : Below W.heap.size W W') : LSt w W' sv out X lv q qv :=
  ⟨h.srow.below hb, fun s hs => (h.old s hs).imp id (fun h1 => ⟨row_below h1.1 hb, h1.2⟩), (hb.block X (Array.getElem?_eq_some_iff.1 h.box).1).trans h.box, row_below h.samp hb, h.lo, h.ap⟩
theorem LSt.cells : W.cell? ⟨X, 0, none⟩ = some lv ∧ W.cell? ⟨X, 1, none⟩ = some qv ∧ W.frozen? ⟨X, 1, none⟩ = false := ⟨cell_of_heap (i := 0) h.box, cell_of_heap (i := 1) h.box, frozen_of_heap h.box⟩
theorem LSt.xlt : X < W.heap.size := (Array.getElem?_eq_some_iff.1 h.box).1
theorem LSt.add {W' : World} {o : Obj} {x : Sm} {v' : Value} (hr : W'.ownsRow X 42 2 v' (q.length + 1) (smC q ++ smC [x])) (hg : (W.alloc o).grownBy W' qv.ownBlock) : LSt w (W'.setCell ⟨X, 1, none⟩ v') sv out X lv (q ++ [x]) v' ∧ W'.heap[X]? = some (.cells #[lv, qv] 36) := by
  have hk1 : Kept (fun k => qv.ownBlock = some k) W W' := ((Kept.refl _ W).alloc o).grown hg (fun _ _ e => e)
  have ht : TurnT 42 w W W' := ⟨_, hk1, fun k e => Nat.le_trans h.lo (h.samp.lt k e).1, fun _ e => row_block h.samp e⟩
  have hX : ¬ qv.ownBlock = some X := fun e => by
    obtain ⟨cs, fr, e'⟩ := row_block h.samp e
    rw [h.box] at e'
    simp at e'
  have hb1 : W'.heap[X]? = some (.cells #[lv, qv] 36) := hk1.heap h.box hX
  have hk2 : Kept (fun k => k = X) W' (W'.setCell ⟨X, 1, none⟩ v') := Kept.setCell (O := fun k => k = X) (p := ⟨X, 1, none⟩) (Kept.refl _ W') (fun _ => rfl) v'
  have ht2 : TurnT 36 w W' (W'.setCell ⟨X, 1, none⟩ v') := ⟨_, hk2, fun k e => e ▸ h.lo, fun k e => ⟨_, _, e ▸ hb1⟩⟩
  have hold : ∀ s ∈ out, SmAt w s.sv s.ss ∨ (W'.ownsRow w.heap.size 42 2 s.sv s.ss.length (smC s.ss) ∧ ∀ k, s.sv.ownBlock = some k → k < X) := fun s hs => (h.old s hs).imp id (fun h1 => ⟨hk1.ownsRow h1.1 (fun k e1 e2 => by
    have h2 := h1.2 k e1
    have h3 := (h.samp.lt k e2).1
    omega), h1.2⟩)
  have hs1 : SRow w W' sv out := ⟨ht.row (by decide) h.srow.row, fun s hs => by
    have h1 := h.srow.ok s hs
    exact ⟨h1.lab.turn ht (by decide), h1.few, (hold s hs).imp id (fun h => h.1), h1.fews⟩, ht.to h.srow.bel⟩
  refine ⟨⟨hs1.box h.lo h.ap hb1 1 v', fun s hs => (hold s hs).imp id (fun h1 => ⟨ht2.row (by decide) h1.1, h1.2⟩), ?_, ?_, h.lo, h.ap⟩, hb1⟩
  · have := heap_setCell_same (i := 1) hb1 v'
    simpa using this
  · rw [List.length_append, smC_append]
    exact ht2.row (by decide) hr
theorem LSt.done {W' : World} {o : Obj} {v' : Value} {ls : List Lb} (hl : LbIn w W lv ls) (hf : ls.length ≤ 64) (hq : q.length ≤ 40) (hr : W'.ownsRow w.heap.size 36 2 v' (out.length + 1) (srC out ++ srV ⟨lv, ls, qv, q⟩)) (hg : (W.alloc o).grownBy W' sv.ownBlock) : SRow w W' v' (out ++ [⟨lv, ls, qv, q⟩]) :=
  h.srow.more _ ⟨hl, hf, Or.inr (row_mono h.samp h.lo), hq⟩ hr hg
end

end Go.Proofs.YtjnjmpfldbkciaaGreat
