/- What is left of series, by the pieces of Union. -/
import Derived.Test.YtjnjmpfldbkciaaGreatMG4
namespace Go.Proofs.YtjnjmpfldbkciaaGreat
open Go.RowKit Go.Maps Go.Sort

theorem canon_sort {U : List Gn} (h : Canon (U.map Gn.p)) : SortL U := fun a b hb hab => by
  rcases Nat.lt_or_eq_of_le hab with h1 | h1
  · have h2 := List.pairwise_iff_getElem.1 h.1 a b (by simp; omega) (by simpa using hb) h1
    simp only [List.getElem_map] at h2
    rcases h2 with h3 | h3
    · exact Int.le_of_lt h3
    · rw [show (U[a]'(by omega)).ls = U[b].ls from h3.1, cmpL_self]
      exact Int.le_refl _
  · subst h1
    rw [cmpL_self]
    exact Int.le_refl _
theorem canon_up {U : List Gn} (h : Canon (U.map Gn.p)) (L : List Lb) : UpG (subP U L) := by
  refine ⟨fun a b hb hab => ?_, fun g hg => h.2 g.p (List.mem_map.2 ⟨g, ((subP_mem (canon_sort h) g).1 hg).1, rfl⟩)⟩
  have ha : (subP U L)[a]'(by omega) ∈ subP U L := List.getElem_mem _
  have hb' : (subP U L)[b] ∈ subP U L := List.getElem_mem _
  have ea := ((subP_mem (canon_sort h) _).1 ha).2
  have eb := ((subP_mem (canon_sort h) _).1 hb').2
  have hp : (subP U L).Pairwise fun x y => Gap x.p y.p := by
    have h1 := List.pairwise_map.1 h.1
    exact (h1.sublist (List.take_sublist _ _)).sublist (List.drop_sublist _ _)
  have h2 := List.pairwise_iff_getElem.1 hp a b (by omega) hb hab
  have h3 := h2.same (ea.trans eb.symm)
  show (Gn.hi _) < _
  have : (Gn.p ((subP U L)[a]'(by omega))).2.2 = ((subP U L)[a]'(by omega)).hi := rfl
  have : (Gn.p ((subP U L)[b])).2.1 = ((subP U L)[b]).lo := rfl
  omega
theorem hitW_sub {U : List Gn} (h : Canon (U.map Gn.p)) (L : List Lb) (t : Int) : hitW (subP U L) t = hitR (U.map Gn.p) L t := by
  unfold hitW hitR
  rw [Bool.eq_iff_iff, List.any_eq_true, List.any_eq_true]
  constructor
  · rintro ⟨g, hg, hh⟩
    obtain ⟨h1, h2⟩ := (subP_mem (canon_sort h) g).1 hg
    refine ⟨g.p, List.mem_map.2 ⟨g, h1, rfl⟩, ?_⟩
    unfold hitG Gn.p
    dsimp only
    rw [decide_eq_true h2]
    exact hh
  · rintro ⟨p, hp, hh⟩
    obtain ⟨g, hg, rfl⟩ := List.mem_map.1 hp
    unfold hitG Gn.p at hh
    dsimp only at hh
    rw [Bool.and_eq_true, decide_eq_true_eq] at hh
    exact ⟨g, (subP_mem (canon_sort h) g).2 ⟨hg, hh.1⟩, hh.2⟩
theorem leftW_sub {U : List Gn} (h : Canon (U.map Gn.p)) (L : List Lb) (ss : List Sm) : leftW (subP U L) ss = leftR (U.map Gn.p) L ss := by
  unfold leftW leftR
  congr 1
  funext x
  rw [hitW_sub h]
/-- The fewest pieces of what is gone. -/
theorem union_facts {g : List PG} {s : List PG} (hs : s.Pairwise LeG) (hp : s.Perm (g.filter fineB)) : Canon (uF s) ∧ (∀ L t, Cov (uF s) L t ↔ Cov g L t) ∧ (uF s).length ≤ g.length := by
  have hf : ∀ x ∈ s, x.2.1 ≤ x.2.2 := fun x hx => by
    have := (List.mem_filter.1 (hp.mem_iff.1 hx)).2
    unfold fineB at this
    exact of_decide_eq_true this
  obtain ⟨h1, h2, -⟩ := uF_all _ s rfl hs hf
  refine ⟨h1, fun L t => ?_, ?_⟩
  · rw [h2, Cov.perm hp]
    constructor
    · rintro ⟨x, hx, h3⟩
      exact ⟨x, (List.mem_filter.1 hx).1, h3⟩
    · rintro ⟨x, hx, h3, h4, h5⟩
      exact ⟨x, List.mem_filter.2 ⟨hx, decide_eq_true (by omega)⟩, h3, h4, h5⟩
  · exact Nat.le_trans (uF_len s) (by rw [hp.length_eq]; exact List.length_filter_le _ _)

/-- Series whose labels and samples are one's own. -/
structure XOk (V W : World) (s : Sr) : Prop where
  lab : W.ownsRow V.heap.size 53 2 s.lv s.ls.length (lbC s.ls)
  few : s.ls.length ≤ 64
  smp : W.ownsRow V.heap.size 42 2 s.sv s.ss.length (smC s.ss)
  fews : s.ss.length ≤ 40
structure XRow (V W : World) (v : Value) (out : List Sr) : Prop where
  row : W.ownsRow V.heap.size 36 2 v out.length (srC out)
  ok : ∀ s ∈ out, XOk V W s
  bel : Below V.heap.size V W
theorem XOk.turn {t : TypeId} {V W W' : World} {s : Sr} (h : XOk V W s) (ht : TurnT t V W W') (hne : 53 ≠ t) (hns : 42 ≠ t) : XOk V W' s := ⟨ht.row hne h.lab, h.few, ht.row hns h.smp, h.fews⟩
theorem XRow.nil (V : World) : XRow V V (.slice none 0 0) [] := ⟨⟨rfl, Or.inl ⟨rfl, rfl⟩⟩, fun g hg => by simp at hg, Below.refl _ _⟩
theorem XRow.below {V W W' : World} {v : Value} {out : List Sr} (h : XRow V W v out) (hb : Below W.heap.size W W') : XRow V W' v out :=
  ⟨row_below h.row hb, fun g hg => (h.ok g hg).turn (t := 0) (TurnT.below hb) (by decide) (by decide), (TurnT.below (t := 0) hb).to h.bel⟩
theorem XRow.more {V W W' : World} {v v' : Value} {out : List Sr} {o : Obj} (h : XRow V W v out) (s : Sr) (hs : XOk V W s) (hr : W'.ownsRow V.heap.size 36 2 v' (out.length + 1) (srC out ++ srV s)) (hgr : (W.alloc o).grownBy W' v.ownBlock) : XRow V W' v' (out ++ [s]) := by
  have ht : TurnT 36 V W W' := TurnT.grown h.row hgr
  refine ⟨?_, fun x hx => ?_, ht.to h.bel⟩
  · rw [List.length_append, srC_append]
    exact hr
  · rcases List.mem_append.1 hx with hx | hx
    · exact (h.ok x hx).turn ht (by decide) (by decide)
    · simp at hx
      subst hx
      exact hs.turn ht (by decide) (by decide)
theorem XRow.srow {w V W : World} {v : Value} {out : List Sr} (h : XRow V W v out) (hb : Below w.heap.size w V) : SRow w W v out :=
  ⟨row_mono h.row hb.size, fun s hs => ⟨Or.inr (row_mono (h.ok s hs).lab hb.size), (h.ok s hs).few, Or.inr (row_mono (h.ok s hs).smp hb.size), (h.ok s hs).fews⟩, hb.trans (h.bel.mono hb.size)⟩

end Go.Proofs.YtjnjmpfldbkciaaGreat
