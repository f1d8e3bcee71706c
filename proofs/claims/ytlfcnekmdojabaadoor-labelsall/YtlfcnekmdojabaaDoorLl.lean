/- The set of some labels, by the document. -/
import Derived.Test.YtlfcnekmdojabaaDoorL8
import Derived.Test.YtlfcnekmdojabaaDoorLc
import Derived.Deep.RegionLaw
namespace Go.Proofs.YtlfcnekmdojabaaDoor
open Go.RowKit Go.Maps Go.Sort

def stepS (out : List Lb) (x : Lb) : List Lb := if (newR (out ++ [x])).2 = 0 then (newR (out ++ [x])).1 else out
def setL (ls : List Lb) : List Lb := (ls.take 80).foldl stepS []

theorem sized_iff {ls : List Lb} : Sized ls ↔ ∀ x ∈ ls, x.1.size ≤ maxLen ∧ x.2.size ≤ maxLen := by
  constructor
  · intro h x hx
    obtain ⟨i, hi, rfl⟩ := List.getElem_of_mem hx
    exact h i hi
  · intro h i hi
    exact h _ (List.getElem_mem hi)
theorem newR_sub {ls : List Lb} {x : Lb} (h : x ∈ (newR ls).1) : x ∈ ls := by
  unfold newR at h
  split at h
  · cases h
  · split at h
    · cases h
    · split at h
      · cases h
      · have := (foldN_inv ls).1.mem_iff.1 h
        exact (List.mem_filter.1 this).1
theorem newR_sized {ls : List Lb} (h : Sized ls) : Sized (newR ls).1 := sized_iff.2 fun x hx => sized_iff.1 h x (newR_sub hx)
theorem newR_length (ls : List Lb) : (newR ls).1.length ≤ 64 := by
  unfold newR
  split
  · simp
  · split
    · simp
    · split
      · simp
      · simp; omega
theorem stepS_take (ms : List Lb) (k : Nat) (hk : k < ms.length) : (ms.take (k + 1)).foldl stepS [] = stepS ((ms.take k).foldl stepS []) ms[k] := by
  rw [List.take_succ_eq_append_getElem hk, List.foldl_append]
  rfl

theorem cut_any (v : Value) (ls : List Lb) (w : World) (h : LabsAt w v ls) :
    Calls Tryd.prog 8 #[v] w fun e w' => ∃ v', e = .returned v' ∧ LabsAt w v' (ls.take 80) ∧ w' = w := by
  obtain ⟨a, c, rfl, hlc, -⟩ := id h
  have HC : Hid (LabsAt w (.slice a ls.length c) ls) := h
  clear h
  have hmx : c ≤ 9223372036854775807 := by have h1 := hlc; unfold maxLen at h1; omega
  by_cases h80 : 80 < ls.length
  · have hT : Hid (LabsAt w (.slice a 80 c) (ls.take 80)) := HC.out.take 80 (by omega)
    have h80i : (80 : Int) ≤ (c : Int) := by omega
    have hne : a ≠ none := fun e => by
      obtain ⟨b, o, e2, -⟩ := HC.out.one 0 (by omega)
      rw [e] at e2
      cases e2
    obtain ⟨b, o, rfl, -⟩ := HC.out.one 0 (by omega)
    go_enter Tryd.func8, Tryd.ntmps8
    go_wp2
    go_ret
    exact ⟨_, rfl, hT.out, rfl⟩
  · have e : ls.take 80 = ls := List.take_of_length_le (by omega)
    rw [e]
    go_enter Tryd.func8, Tryd.ntmps8
    go_wp2
    go_ret
    exact ⟨_, rfl, HC.out, rfl⟩

theorem step_append_labs (w : World) {ops : Array Oper} {o : Oper} {a : Act} {K : Act → World → Prop} {Q : Exit → Act → World → Prop} {E : Prop} (hgd : o.guard = none) (s x : Operand)
    (ho : o.op = .call { callee := .builtin .append, args := #[s, x], argTypes := #[22, 22] }) (base : Nat) (v : Value) (n : Nat) (xs : List Value) (hs : a.eval s = v) (hown : w.ownsRow base 28 2 v n xs)
    (xv : Value) (nw : List Lb) (hx : a.eval x = xv) (hb : LabsAt w xv nw) (hl : n + nw.length ≤ 1000000) (hbase : base ≤ w.heap.size)
    (h : ∀ c d w', w'.ownsRow base 28 2 (.slice c (n + nw.length) d) (n + nw.length) (xs ++ lbCells nw) → w.grownBy w' v.ownBlock → K (a.put o.dst (.slice c (n + nw.length) d)) w') :
    if Region.wanted o (yielded ops a.tmps) = true then Oper.wp Tryd.prog o a w K Q else E := by
  have hw : Region.wanted o (yielded ops a.tmps) = true := by simp [Region.wanted, hgd]
  rw [if_pos hw]
  obtain ⟨v', w', hr, h2, h3, h4⟩ := run_append_labs w o.type base v n xs hown xv nw hb hl hbase
  obtain ⟨c, d, rfl⟩ := slice_of_row h2
  unfold Oper.wp execOp
  simp only [ho, resolve, invoke, builtin, Sem.run_bind, Sem.run_pure, Result.andThen_ok, List.map_toArray, List.map_cons, List.map_nil, hs, hx, hr]
  exact h c d w' h2 h3

theorem step_call1 (w : World) {P : Program} {ops : Array Oper} {o : Oper} {a : Act} {K : Act → World → Prop} {Q : Exit → Act → World → Prop} {E : Prop} (hgd : o.guard = none) (f : Nat) (x : Operand) (t : TypeId)
    (ho : o.op = .call { callee := .value (.func f), args := #[x], argTypes := #[t] }) (v : Value) (hx : a.eval x = v) (he : ∀ args w, (callFunc f args).run P w = .ok (.enter f args) w) (R : Value → World → Prop)
    (hc : Calls P f #[v] w fun e w' => ∃ u, e = .returned u ∧ R u w') (h : ∀ u w', R u w' → K (a.put o.dst u) w') :
    if Region.wanted o (yielded ops a.tmps) = true then Oper.wp P o a w K Q else E := by
  have hw : Region.wanted o (yielded ops a.tmps) = true := by simp [Region.wanted, hgd]
  rw [if_pos hw]
  have hfn : a.eval (.func f) = .func (.func f) #[] #[] := rfl
  unfold Oper.wp execOp
  simp only [ho, resolve, hfn, hx, Sem.run_bind, List.map_toArray, List.map_cons, List.map_nil]
  simp only [Deferred.ofValue, invoke, Sem.run_pure, Result.andThen_ok, Array.append_empty, he]
  refine hc.mono ?_
  rintro e w' ⟨u, rfl, hu⟩
  exact h u w' hu

set_option maxRecDepth 100000 in
set_option maxHeartbeats 2000000 in
theorem set_any (v : Value) (ls : List Lb) (w : World) (h : LabsAt w v ls) (hsz : Sized ls) :
    Calls Tryd.prog 4 #[v] w fun e w' => ∃ v', e = .returned v' ∧ w'.ownsRow w.heap.size 28 2 v' (setL ls).length (lbCells (setL ls)) ∧ Below w.heap.size w w' := by
  have hcut := cut_any v ls w h
  obtain ⟨a, c, rfl, hlc, -⟩ := id h
  have hms : (ls.take 80).length ≤ 80 := by simp; omega
  have HZ : Hid (Sized (ls.take 80)) := fun i hi => by
    have := hsz i (by simp at hi; omega)
    simpa using this
  have HSL : Hid (setL ls = (ls.take 80).foldl stepS []) := rfl
  generalize ls.take 80 = ms at *
  clear h hsz
  go_enter Tryd.func4, Tryd.ntmps4
  go_wp2_with (go_at_call 8; refine hcut.mono ?_; rintro e w1 ⟨v1, rfl, hL1, rfl⟩; obtain ⟨a1, c1, rfl, hlc1, -⟩ := id hL1)
  have HC : Hid (LabsAt w1 (.slice a1 ms.length c1) ms) := hL1
  clear hL1 hcut
  go_loopw [3, 4] (fun vo i wr => ∃ (k : Nat) (out : List Lb), k ≤ ms.length ∧ i = .int .i64 k ∧ out.length ≤ 64 ∧ Hid ((ms.take k).foldl stepS [] = out ∧ Sized out) ∧ Hid (wr.ownsRow w1.heap.size 28 2 vo out.length (lbCells out)) ∧ Hid (Below w1.heap.size w1 wr)) (fun _ i _ => ms.length - (intOf i).toNat)
  case atStart => exact ⟨0, [], Nat.zero_le _, rfl, Nat.zero_le _, ⟨rfl, fun i hi => absurd hi (Nat.not_lt_zero _)⟩, World.ownsRow_nil _ _ _ _, Below.refl _ _⟩
  case round =>
    obtain ⟨k, out, hk, rfl, hol, hfo, hrow, hbel⟩ := hrel
    by_cases hlt : k < ms.length
    · obtain ⟨b, o, rfl, hone⟩ := HC.out.one k hlt
      have HO : Hid (∀ w', Below w1.heap.size w1 w' → w'.cell? ⟨b, o + k * 2, none⟩ = some (.string ms[k].1) ∧ w'.cell? ⟨b, o + k * 2 + 1, none⟩ = some (.string ms[k].2)) := hone
      obtain ⟨h0, h1⟩ := hone _ hbel.out
      clear hone
      obtain ⟨x, hx⟩ : ∃ x, x = ms[k].1 := ⟨_, rfl⟩
      obtain ⟨y, hy⟩ : ∃ y, y = ms[k].2 := ⟨_, rfl⟩
      rw [← hx, ← hy] at HO
      rw [← hx] at h0
      rw [← hy] at h1
      have HX : Hid (ms[k] = (x, y)) := by show _ = _; rw [hx, hy]
      clear hx hy
      have hkl : (k : Int) < (ms.length : Int) := by omega
      obtain ⟨av, cv, hvo⟩ := slice_of_row hrow.out
      subst hvo
      have hsw := hbel.out.size
      have hbW := hbel.out
      have hLout : Hid (∀ w', Below wr.heap.size wr w' → LabsAt w' (.slice av out.length cv) out) := fun w' hb => (LabsAt.of_row hrow.out).below hb
      have HBW : Hid (Below w1.heap.size w1 wr) := hbW
      have HE1 : Hid (((wr.alloc (.cells #[] 28)).drew).ownsRow wr.heap.size 28 2 (.slice (some ⟨wr.heap.size, 0, none⟩) 0 0) 0 []) := World.ownsRow.drew (row_empty wr _ (Nat.le_refl _))
      have HB1 : Hid (Below wr.heap.size wr ((wr.alloc (.cells #[] 28)).drew)) := ((Below.refl _ wr).alloc (Nat.le_refl _) _).drew
      have HG1 : Hid (∀ w2, ((wr.alloc (.cells #[] 28)).drew).grownBy w2 (Value.slice (some ⟨wr.heap.size, 0, none⟩) 0 0).ownBlock → Below wr.heap.size wr w2) := fun w2 hg => HB1.out.grown hg (by simp) (fun j hj => by cases hj; exact Nat.le_refl _)
      have hso : Sized (out ++ [(x, y)]) := sized_iff.2 fun z hz => by
        rcases List.mem_append.1 hz with h9 | h9
        · exact sized_iff.1 hfo.out.2 z h9
        · have : z = (x, y) := by simpa using h9
          rw [this, ← HX.out]
          exact HZ.out k hlt
      have hnew := fun (W : World) (vv : Value) (hh : LabsAt W vv (out ++ [(x, y)])) => refNew_any vv (out ++ [(x, y)]) W hh (by simp; omega) hso
      have HST : Hid ((ms.take (k + 1)).foldl stepS [] = if (newR (out ++ [(x, y)])).2 = 0 then (newR (out ++ [(x, y)])).1 else out) := by
        show _ = _
        rw [stepS_take ms k hlt, hfo.out.1, HX.out]
        rfl
      have hr1l := newR_length (out ++ [(x, y)])
      have HR1 : Hid (Sized (newR (out ++ [(x, y)])).1) := newR_sized hso
      have HSO : Hid (Sized out) := hfo.out.2
      obtain ⟨r1, hr1e⟩ : ∃ r1, (newR (out ++ [(x, y)])).1 = r1 := ⟨_, rfl⟩
      obtain ⟨r2, hr2e⟩ : ∃ r2, (newR (out ++ [(x, y)])).2 = r2 := ⟨_, rfl⟩
      rw [hr1e, hr2e] at HST
      rw [hr1e] at hr1l HR1
      have HNEW : Hid (∀ (W : World) (vv : Value), W.ownsRow wr.heap.size 28 2 vv (out.length + [(x, y)].length) (lbCells out ++ lbCells [(x, y)]) → Calls Tryd.prog 9 #[vv] W fun e w' => ∃ u, e = .returned u ∧ ∃ v', u = .tuple #[v', .int .i64 r2] ∧ w'.ownsRow W.heap.size 28 2 v' r1.length (lbCells r1) ∧ Below W.heap.size W w') := fun W vv hr => by
        have h9 := hnew W vv (LabsAt.of_row (base := wr.heap.size) (by rw [lbCells_append, List.length_append]; exact hr))
        rw [hr1e, hr2e] at h9
        exact h9.mono fun e w' ⟨v', he, h2, h3⟩ => ⟨_, he, v', rfl, h2, h3⟩
      have heN : ∀ args w, (callFunc 9 args).run Tryd.prog w = .ok (.enter 9 args) w := enters_of Tryd.func9 (by kernel_rfl) rfl
      have HROW : Hid (∀ w', Below wr.heap.size wr w' → w'.ownsRow w1.heap.size 28 2 (.slice av out.length cv) out.length (lbCells out)) := fun w' hb => row_below hrow.out hb
      clear hnew hso hr1e hr2e hfo HX
      obtain ⟨hq0, hq1⟩ := HO.out (wr.alloc (.cells #[] 28)) (hbW.alloc hsw _)
      have HE2 : Hid ((((wr.alloc (.cells #[] 28)).drew).alloc (.cells #[.string x, .string y] 28)).ownsRow wr.heap.size 28 2 (.slice (some ⟨wr.heap.size, 0, none⟩) 0 0) 0 []) := World.ownsRow.alloc HE1.out _
      have HB2 : Hid (Below wr.heap.size wr (((wr.alloc (.cells #[] 28)).drew).alloc (.cells #[.string x, .string y] 28))) := HB1.out.alloc (by simp) _
      have HG2 : Hid (∀ w2, (((wr.alloc (.cells #[] 28)).drew).alloc (.cells #[.string x, .string y] 28)).grownBy w2 (Value.slice (some ⟨wr.heap.size, 0, none⟩) 0 0).ownBlock → Below wr.heap.size wr w2 ∧ LabsAt w2 (.slice (some ⟨wr.heap.size + 1, 0, none⟩) 1 1) [(x, y)]) := fun w2 hg => by
        refine ⟨HB2.out.grown hg (by simp; omega) (fun j hj => by cases hj; exact Nat.le_refl _), ?_⟩
        have hh : (((wr.alloc (.cells #[] 28)).drew).alloc (.cells #[.string x, .string y] 28)).heap[wr.heap.size + 1]? = some (.cells #[.string x, .string y] 28 (0, 0)) := by
          have h9 := heap_alloc_new ((wr.alloc (.cells #[] 28)).drew) (.cells #[.string x, .string y] 28 (0, 0))
          have h8 : ((wr.alloc (.cells #[] 28)).drew).heap.size = wr.heap.size + 1 := by simp
          rw [h8] at h9
          exact h9
        exact LabsAt.lone ((hg.block _ (Array.getElem?_eq_some_iff.1 hh).1 (by simp [Value.ownBlock])).trans hh)
      have HE3 : Hid (((wr.alloc (.cells #[.string x, .string y] 28)).alloc (.cells #[] 28)).drew.ownsRow wr.heap.size 28 2 (.slice (some ⟨wr.heap.size + 1, 0, none⟩) 0 0) 0 []) := by
        have h9 := row_empty (wr.alloc (.cells #[.string x, .string y] 28)) wr.heap.size (by simp)
        rw [World.size_alloc] at h9
        exact World.ownsRow.drew h9
      have HB3 : Hid (Below wr.heap.size wr (((wr.alloc (.cells #[.string x, .string y] 28)).alloc (.cells #[] 28)).drew)) := (((Below.refl _ wr).alloc (Nat.le_refl _) _).alloc (by simp) _).drew
      have HG3 : Hid (∀ w2, (((wr.alloc (.cells #[.string x, .string y] 28)).alloc (.cells #[] 28)).drew).grownBy w2 (Value.slice (some ⟨wr.heap.size + 1, 0, none⟩) 0 0).ownBlock → Below wr.heap.size wr w2 ∧ LabsAt w2 (.slice (some ⟨wr.heap.size, 0, none⟩) 1 1) [(x, y)]) := fun w2 hg => by
        refine ⟨HB3.out.grown hg (by simp; omega) (fun j hj => by cases hj; exact Nat.le_succ _), ?_⟩
        have hh : (((wr.alloc (.cells #[.string x, .string y] 28)).alloc (.cells #[] 28)).drew).heap[wr.heap.size]? = some (.cells #[.string x, .string y] 28 (0, 0)) := (Below.heap_alloc _ _ _ (by simp)).trans (heap_alloc_new wr _)
        exact LabsAt.lone ((hg.block _ (Array.getElem?_eq_some_iff.1 hh).1 (by simp [Value.ownBlock])).trans hh)
      go_wp2_with fail
      go_region_law (first
        | (refine step_append_labs _ (by rfl) _ _ (by rfl) wr.heap.size _ 0 [] (by rfl) HE1.out _ out (by rfl) (hLout.out _ HB1.out) (by omega) (by simp <;> omega) ?_; intro c2 d2 w2 hr2 hg2; have hbel2 := HG1.out w2 hg2; have hs2 := hbel2.size; obtain ⟨p0, p1⟩ := HO.out _ (HBW.out.trans (hbel2.mono hsw)); rw [Nat.zero_add, List.nil_append] at hr2)
        | (refine step_append_labs _ (by rfl) _ _ (by rfl) wr.heap.size _ out.length (lbCells out) (by rfl) (World.ownsRow.alloc hr2 _) _ [(x, y)] (by rfl) (LabsAt.lone (heap_alloc_new w2 _)) (by simp; omega) (by simp; omega) ?_; intro c3 d3 w3 hr3 hg3; have hbel3 := below_grown (hbel2.alloc hs2 _) (row_lo hr2) hg3; have hs3 := hbel3.size)
        | (refine step_append_labs _ (by rfl) _ _ (by rfl) wr.heap.size _ 0 [] (by rfl) HE2.out _ out (by rfl) (hLout.out _ HB2.out) (by omega) (by simp <;> omega) ?_; intro c2 d2 w2 hr2 hg2; obtain ⟨hbel2, hlone2⟩ := HG2.out w2 hg2; have hs2 := hbel2.size; rw [Nat.zero_add, List.nil_append] at hr2)
        | (refine step_append_labs _ (by rfl) _ _ (by rfl) wr.heap.size _ 0 [] (by rfl) HE3.out _ out (by rfl) (hLout.out _ HB3.out) (by omega) (by simp <;> omega) ?_; intro c2 d2 w2 hr2 hg2; obtain ⟨hbel2, hlone2⟩ := HG3.out w2 hg2; have hs2 := hbel2.size; rw [Nat.zero_add, List.nil_append] at hr2)
        | (refine step_append_labs _ (by rfl) _ _ (by rfl) wr.heap.size _ out.length (lbCells out) (by rfl) hr2 _ [(x, y)] (by rfl) hlone2 (by simp; omega) (by omega) ?_; intro c3 d3 w3 hr3 hg3; have hbel3 := below_grown hbel2 (row_lo hr2) hg3; have hs3 := hbel3.size)
        | (refine step_call1 _ (by rfl) 9 _ _ (by rfl) _ (by rfl) heN (fun u w' => ∃ v', u = .tuple #[v', .int .i64 r2] ∧ w'.ownsRow w3.heap.size 28 2 v' r1.length (lbCells r1) ∧ Below w3.heap.size w3 w') (HNEW.out _ _ hr3) ?_; rintro u w4 ⟨v4, rfl, hr4, hb4⟩; have hbel4 := hbel3.trans (hb4.mono hs3)))
      all_goals
        by_cases hz : r2 = 0
        · go_wp2
          go_roundw
          case rel => exact ⟨k + 1, r1, by omega, by go_num, hr1l, ⟨by rw [HST.out, if_pos hz], HR1.out⟩, row_mono hr4 (Nat.le_trans hsw hs3), HBW.out.trans (hbel4.mono hsw)⟩
          case measure => simp [intOf]; omega
        · go_wp2
          go_roundw
          case rel => exact ⟨k + 1, out, by omega, by go_num, hol, ⟨by rw [HST.out, if_neg hz], HSO.out⟩, HROW.out _ hbel4, HBW.out.trans (hbel4.mono hsw)⟩
          case measure => simp [intOf]; omega
    · have HE : Hid (setL ls = out) := by
        show _ = _
        rw [HSL.out]
        have h9 := hfo.out.1
        rw [List.take_of_length_le (by omega)] at h9
        exact h9
      obtain ⟨av, cv, hvo⟩ := slice_of_row hrow.out
      subst hvo
      clear hfo HC
      go_wp2
      go_ret
      refine ⟨_, rfl, ?_, hbel.out⟩
      rw [HE.out]
      exact hrow.out

end Go.Proofs.YtlfcnekmdojabaaDoor
