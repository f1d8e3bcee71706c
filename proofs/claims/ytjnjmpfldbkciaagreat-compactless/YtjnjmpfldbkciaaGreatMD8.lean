/- Do two pieces meet; pieces with labels of their own. -/
import Derived.Test.YtjnjmpfldbkciaaGreatMD5
import Derived.Test.YtjnjmpfldbkciaaGreatMD7
namespace Go.Proofs.YtjnjmpfldbkciaaGreat
open Go.RowKit Go.Maps Go.Sort

set_option maxRecDepth 100000 in
set_option maxHeartbeats 2000000 in
theorem meets_any (x y : Gn) (w : World) (hx : GOk w x) (hy : GOk w y) :
    Calls Tryz.prog 25 #[.agg #[x.v, .int .i64 x.lo, .int .i64 x.hi], .agg #[y.v, .int .i64 y.lo, .int .i64 y.hi]] w fun e w' => e = .returned (.bool (metG x.p y.p)) ∧ Below w.heap.size w w' := by
  obtain ⟨xv, xls, xlo, xhi⟩ := x
  obtain ⟨yv, yls, ylo, yhi⟩ := y
  obtain ⟨xa, xc, e1, -⟩ := id hx.lab
  obtain ⟨ya, yc, e2, -⟩ := id hy.lab
  dsimp only at e1 e2 ⊢
  subst e1 e2
  have h1 := hx.hi1
  have h2 := hx.hi2
  have h3 := hy.lo1
  have h4 := hy.lo2
  dsimp only at h1 h2 h3 h4
  have hb1 : Below w.heap.size w (w.alloc (.cells #[.slice xa xls.length xc, .int .i64 xlo, .int .i64 xhi] 39)) := (Below.refl _ w).alloc (Nat.le_refl _) _
  have hb2 : Below w.heap.size w ((w.alloc (.cells #[.slice xa xls.length xc, .int .i64 xlo, .int .i64 xhi] 39)).alloc (.cells #[.slice ya yls.length yc, .int .i64 ylo, .int .i64 yhi] 39)) := hb1.alloc hb1.size _
  have hc := compare_g _ _ xls yls _ (hx.lab.below hb2) (hy.lab.below hb2) (by have := hx.few; dsimp only at this; omega) (by have := hy.few; dsimp only at this; omega)
  have HB : Hid (∀ W, GrW ((w.alloc (.cells #[.slice xa xls.length xc, .int .i64 xlo, .int .i64 xhi] 39)).alloc (.cells #[.slice ya yls.length yc, .int .i64 ylo, .int .i64 yhi] 39)) W → Below w.heap.size w W) := fun W hW => hb2.trans (hW.below.mono hb2.size)
  have HB2 : Hid (Below w.heap.size w ((w.alloc (.cells #[.slice xa xls.length xc, .int .i64 xlo, .int .i64 xhi] 39)).alloc (.cells #[.slice ya yls.length yc, .int .i64 ylo, .int .i64 yhi] 39))) := hb2
  have HM : Hid (metG (Gn.p ⟨.slice xa xls.length xc, xls, xlo, xhi⟩) (Gn.p ⟨.slice ya yls.length yc, yls, ylo, yhi⟩) = (decide (cmpL xls yls = 0) && decide (ylo ≤ xhi + 1))) := by
    show (decide (xls = yls) && decide (ylo ≤ xhi + 1)) = _
    rw [show decide (xls = yls) = decide (cmpL xls yls = 0) from decide_eq_decide.2 (tcL.zero _ _).symm]
  rw [HM.out]
  clear hx hy hb1 hb2 HM
  generalize cmpL xls yls = cz at *
  rw [show decide (cz = 0) = (cz == 0) by rw [Bool.eq_iff_iff]; simp]
  by_cases e1 : ylo ≤ xhi
  · have d1 : decide (ylo ≤ xhi) = true := decide_eq_true e1
    have d2 : decide (ylo ≤ xhi + 1) = true := decide_eq_true (by omega)
    rw [d2]
    go_enter Tryz.func25, Tryz.ntmps25
    go_wp2_with (go_at_call 23; refine hc.mono ?_; rintro e w2 ⟨rfl, hd2⟩; have hbw := HB.out w2 hd2)
    go_ret
    exact ⟨by simp, hbw⟩
  · have d1 : decide (ylo ≤ xhi) = false := decide_eq_false e1
    have hw : IntKind.i64.wrap (xhi + 1) = xhi + 1 := wrap_in (by omega) (by omega)
    by_cases e2 : ylo = xhi + 1
    · have d2 : decide (ylo ≤ xhi + 1) = true := decide_eq_true (by omega)
      have d3 : (ylo == xhi + 1) = true := by simpa using e2
      rw [d2]
      clear e2
      go_enter Tryz.func25, Tryz.ntmps25
      go_wp2_with (go_at_call 23; refine hc.mono ?_; rintro e w2 ⟨rfl, hd2⟩; have hbw := HB.out w2 hd2)
      go_ret
      exact ⟨by simp, hbw⟩
    · have d2 : decide (ylo ≤ xhi + 1) = false := decide_eq_false (by omega)
      have d3 : (ylo == xhi + 1) = false := by simpa using e2
      rw [d2]
      go_enter Tryz.func25, Tryz.ntmps25
      go_wp2_with (go_at_call 23; refine hc.mono ?_; rintro e w2 ⟨rfl, hd2⟩; have hbw := HB.out w2 hd2)
      go_ret
      exact ⟨by simp, HB2.out⟩

/-- A piece with labels of one's own. -/
structure UOk (V W : World) (g : Gn) : Prop where
  lab : W.ownsRow V.heap.size 53 2 g.v g.ls.length (lbC g.ls)
  few : g.ls.length ≤ 64
  lo1 : -9223372036854775808 ≤ g.lo
  lo2 : g.lo ≤ 9223372036854775807
  hi1 : -9223372036854775808 ≤ g.hi
  hi2 : g.hi ≤ 9223372036854775807
structure URow (V W : World) (v : Value) (out : List Gn) : Prop where
  row : W.ownsRow V.heap.size 39 3 v out.length (gnC out)
  ok : ∀ g ∈ out, UOk V W g
  bel : Below V.heap.size V W
theorem UOk.turn {t : TypeId} {V W W' : World} {g : Gn} (h : UOk V W g) (ht : TurnT t V W W') (hne : 53 ≠ t) : UOk V W' g := ⟨ht.row hne h.lab, h.few, h.lo1, h.lo2, h.hi1, h.hi2⟩
theorem UOk.gok {V W : World} {g : Gn} (h : UOk V W g) : GOk W g := ⟨RowAt.of_row h.lab, h.few, h.lo1, h.lo2, h.hi1, h.hi2⟩
theorem URow.nil (V : World) : URow V V (.slice none 0 0) [] := ⟨⟨rfl, Or.inl ⟨rfl, rfl⟩⟩, fun g hg => by simp at hg, Below.refl _ _⟩
theorem URow.below {V W W' : World} {v : Value} {out : List Gn} (h : URow V W v out) (hb : Below W.heap.size W W') : URow V W' v out :=
  ⟨row_below h.row hb, fun g hg => (h.ok g hg).turn (t := 0) (TurnT.below hb) (by decide), (TurnT.below (t := 0) hb).to h.bel⟩
theorem URow.more {V W W' : World} {v v' : Value} {out : List Gn} {o : Obj} (h : URow V W v out) (g : Gn) (hg : UOk V W g) (hr : W'.ownsRow V.heap.size 39 3 v' (out.length + 1) (gnC out ++ gnV g)) (hgr : (W.alloc o).grownBy W' v.ownBlock) : URow V W' v' (out ++ [g]) := by
  have ht : TurnT 39 V W W' := TurnT.grown h.row hgr
  refine ⟨?_, fun x hx => ?_, ht.to h.bel⟩
  · rw [List.length_append, gnC_append]
    exact hr
  · rcases List.mem_append.1 hx with hx | hx
    · exact (h.ok x hx).turn ht (by decide)
    · simp at hx
      subst hx
      exact hg.turn ht (by decide)
theorem URow.box {V W : World} {v : Value} {out : List Gn} (h : URow V W v out) {x : Nat} (hx : V.heap.size ≤ x) (hv : ∀ k, v.ownBlock = some k → k ≠ x) {cs : Array Value} {fr : Nat × Nat} (hh : W.heap[x]? = some (.cells cs 39 fr)) (i : Nat) (u : Value) : URow V (W.setCell ⟨x, i, none⟩ u) v out ∧ ∀ g, UOk V W g → UOk V (W.setCell ⟨x, i, none⟩ u) g := by
  have hk : Kept (fun k => k = x) W (W.setCell ⟨x, i, none⟩ u) := Kept.setCell (O := fun k => k = x) (p := ⟨x, i, none⟩) (Kept.refl _ W) (fun _ => rfl) u
  have ht : TurnT 39 V W (W.setCell ⟨x, i, none⟩ u) := ⟨_, hk, fun k e => e ▸ hx, fun k e => ⟨cs, fr, e ▸ hh⟩⟩
  exact ⟨⟨hk.ownsRow h.row (fun k e => hv k e), fun s hs => (h.ok s hs).turn ht (by decide), ht.to h.bel⟩, fun g hg => hg.turn ht (by decide)⟩
theorem URow.last {V W : World} {og c n : Nat} {r : List Gn} {o : Gn} (h : URow V W (.slice (some ⟨og, 0, none⟩) n c) (r ++ [o])) (x : Int) (h1 : -9223372036854775808 ≤ x) (h2 : x ≤ 9223372036854775807) : URow V (W.setCell ⟨og, r.length * 3 + 2, none⟩ (.int .i64 x)) (.slice (some ⟨og, 0, none⟩) n c) (r ++ [{ o with hi := x }]) := by
  have hk : Kept (fun k => k = og) W (W.setCell ⟨og, r.length * 3 + 2, none⟩ (.int .i64 x)) := Kept.setCell (O := fun k => k = og) (p := ⟨og, r.length * 3 + 2, none⟩) (Kept.refl _ W) (fun _ => rfl) _
  obtain ⟨cs, fr, hh⟩ := row_block h.row (b := og) rfl
  have ht : TurnT 39 V W (W.setCell ⟨og, r.length * 3 + 2, none⟩ (.int .i64 x)) := ⟨_, hk, fun k e => by subst e; exact (h.row.lt k rfl).1, fun k e => ⟨cs, fr, e ▸ hh⟩⟩
  refine ⟨?_, fun g hg => ?_, ht.to h.bel⟩
  · have h3 := ownsRow_set h.row (g := og) rfl (i := r.length * 3 + 2) (.int .i64 x)
    rw [gnC_last] at h3
    have e : (r ++ [o]).length = (r ++ [{ o with hi := x }]).length := by simp
    rw [← e]
    exact h3
  · rcases List.mem_append.1 hg with hg | hg
    · exact (h.ok g (List.mem_append.2 (Or.inl hg))).turn ht (by decide)
    · simp at hg
      subst hg
      have h4 := (h.ok o (by simp)).turn ht (by decide)
      exact ⟨h4.lab, h4.few, h4.lo1, h4.lo2, h1, h2⟩
theorem URow.grow {w V W : World} {v : Value} {out : List Gn} (h : URow V W v out) (hb : Below w.heap.size w V) : GRow w W v out :=
  ⟨row_mono h.row hb.size, fun g hg => ⟨Or.inr (row_mono (h.ok g hg).lab hb.size), (h.ok g hg).few, (h.ok g hg).lo1, (h.ok g hg).lo2, (h.ok g hg).hi1, (h.ok g hg).hi2⟩, hb.trans (h.bel.mono hb.size)⟩

end Go.Proofs.YtjnjmpfldbkciaaGreat
