/- A set's text. -/
import Derived.Test.YtlfcnekmdojabaaDoorLe
import Derived.Test.YtlfcnekmdojabaaDoorLf
namespace Go.Proofs.YtlfcnekmdojabaaDoor
open Go.RowKit Go.Shelf
attribute [local go_sem] Oper.semAt_some

def tokB : ByteArray := ⟨#[95, 95, 110, 97, 109, 101, 95, 95]⟩
def stepT (r : Nat × List UInt8) (x : Lb) : Nat × List UInt8 := if (x.1.toList == [95, 95, 110, 97, 109, 101, 95, 95]) = true then r else (r.1 + 1, r.2 ++ (if r.1 = 0 then [123] else [44]) ++ x.1.data.toList ++ [61] ++ quoteL x.2.data.toList)
def foldT (m : ByteArray) (ls : List Lb) : Nat × List UInt8 := ls.foldl stepT (0, m.data.toList)
theorem foldT_snoc (m : ByteArray) (ls : List Lb) (x : Lb) : foldT m (ls ++ [x]) = stepT (foldT m ls) x := by simp [foldT]
def endT (m : ByteArray) (n : Nat) : List UInt8 := if 0 < n then [125] else if m.toList.isEmpty = true then [123, 125] else []
def textL (ls : List Lb) : List UInt8 := (foldT (getL ls tokB) ls).2 ++ endT (getL ls tokB) (foldT (getL ls tokB) ls).1
def Short (ls : List Lb) : Prop := ∀ i (h : i < ls.length), ls[i].1.size ≤ 1024 ∧ ls[i].2.size ≤ 1024

/-- A label of at most 1024 bytes each. -/
abbrev SLb := { x : Lb // x.1.size ≤ 1024 ∧ x.2.size ≤ 1024 }
theorem Short.lift {ls : List Lb} (h : Short ls) : ∃ xs : List SLb, xs.map Subtype.val = ls := by
  induction ls with
  | nil => exact ⟨[], rfl⟩
  | cons a t ih =>
    obtain ⟨ys, hy⟩ := ih (fun i hi => h (i + 1) (by simpa using hi))
    exact ⟨⟨a, h 0 (by simp)⟩ :: ys, by simp [hy]⟩
theorem quoteL_length (s : ByteArray) : (quoteL s.data.toList).length ≤ 2 * s.size + 2 := by
  have h1 := escs_length s.data.toList
  have h2 : s.data.toList.length = s.size := by rw [Array.length_toList]; rfl
  unfold quoteL
  rw [List.length_append, List.length_append, List.length_singleton]
  omega
set_option maxRecDepth 100000 in
theorem foldT_bound (m : ByteArray) (hm : m.size ≤ 1024) (xs : List SLb) : (foldT m (xs.map Subtype.val)).1 ≤ xs.length ∧ (foldT m (xs.map Subtype.val)).2.length ≤ 1024 + xs.length * 4000 := by
  have hd : ∀ s : ByteArray, s.data.toList.length = s.size := fun s => by rw [Array.length_toList]; rfl
  have key : ∀ n, ∀ ys : List SLb, ys.length = n → (foldT m (ys.map Subtype.val)).1 ≤ ys.length ∧ (foldT m (ys.map Subtype.val)).2.length ≤ 1024 + ys.length * 4000 := by
    intro n
    induction n with
    | zero =>
      intro ys hy
      have : ys = [] := List.eq_nil_of_length_eq_zero hy
      subst this
      simp only [foldT, List.map_nil, List.foldl_nil, hd]
      simp
      exact hm
    | succ n ih =>
      intro ys hy
      rcases List.eq_nil_or_concat ys with e | ⟨zs, z, e⟩
      · subst e; simp at hy
      · subst e
        rw [List.concat_eq_append] at *
        have hz : zs.length = n := by simpa using hy
        have h1 := ih zs hz
        have hq := quoteL_length z.1.2
        have hz1 := z.2.1
        have hz2 := z.2.2
        rw [List.map_append, List.map_cons, List.map_nil, foldT_snoc]
        unfold stepT
        rw [List.length_append, List.length_singleton]
        split
        · constructor
          · omega
          · have := h1.2; omega
        · constructor
          · show (foldT m (zs.map Subtype.val)).1 + 1 ≤ _
            omega
          · show ((foldT m (zs.map Subtype.val)).2 ++ _ ++ _ ++ _ ++ _).length ≤ _
            have hc : (if (foldT m (zs.map Subtype.val)).1 = 0 then [(123 : UInt8)] else [44]).length = 1 := by split <;> rfl
            rw [List.length_append, List.length_append, List.length_append, List.length_append, hc, hd, List.length_singleton]
            have := h1.2
            omega
  exact key xs.length xs rfl
theorem getL_short {ls : List Lb} (h : Short ls) (n : ByteArray) : (getL ls n).size ≤ 1024 := by
  rw [getL_find]
  cases hf : ls.find? (fun x => x.1.toList == n.toList) with
  | none => decide
  | some x =>
    have := List.mem_of_find?_eq_some hf
    obtain ⟨i, hi, e⟩ := List.getElem_of_mem this
    have := (h i hi).2
    rw [e] at this
    exact this

/-- What turns no block of cells keeps a Builder. -/
theorem cells_kept {W W' : World} {row : Option Nat} {g : Nat} {c : Array Value} {t : TypeId} {fr : Nat × Nat} (h : W.heap[g]? = some (.cells c t fr)) (hg : W.grownBy W' row) (hr : ∀ r, row = some r → ∃ o : Obj, W.heap[r]? = some o ∧ o.isCells = false) : W'.heap[g]? = some (.cells c t fr) := by
  refine (hg.block g (Array.getElem?_eq_some_iff.1 h).1 fun e => ?_).trans h
  obtain ⟨o, ho, hc⟩ := hr g e.symm
  rw [h] at ho
  cases ho
  cases hc
theorem Bd.kept {B b : Nat} {bs : List UInt8} {W W' : World} {row : Option Nat} (h : Bd B b bs W) (hg : W.grownBy W' row) (hr : ∀ r, row = some r → ∃ o : Obj, W.heap[r]? = some o ∧ o.isCells = false) : Bd B b bs W' := by
  have key : ∀ p, Lib.BuilderAtF 48 5 B b p (Lib.byteCells bs) W → Lib.BuilderAtF 48 5 B b p (Lib.byteCells bs) W' := fun p hp => by
    obtain ⟨h1, v, h2, h3, h4⟩ := hp
    refine ⟨h1, v, cells_kept h2 hg hr, ?_, h4⟩
    refine ⟨h3.1, ?_⟩
    rcases h3.2 with h5 | ⟨g, cap, cur, fz, e1, e2, e3, e4⟩
    · exact Or.inl h5
    · exact Or.inr ⟨g, cap, cur, fz, e1, e2, cells_kept e3 hg hr, e4⟩
  exact h.elim (fun x => Or.inl (key _ x)) (fun x => Or.inr (key _ x))
theorem Bd.block {B b : Nat} {bs : List UInt8} {W : World} (h : Bd B b bs W) : ∃ c, W.heap[b]? = some (.cells c 48 (0, 0)) := by
  rcases h with ⟨_, v, h2, _⟩ | ⟨_, v, h2, _⟩
  · exact ⟨_, h2⟩
  · exact ⟨_, h2⟩
theorem BK.keeps {B b : Nat} {bs : List UInt8} {W W' : World} (h : BK B b W W') (hb : Bd B b bs W) : KeepsOthers W W' :=
  ⟨h.below.size, fun k o hk ho => h.others k o hk (fun e => by
    cases e
    obtain ⟨c, hc⟩ := hb.block
    rw [hc] at hk
    cases hk
    cases ho) (fun c fz e => by rw [e] at ho; cases ho)⟩

/-- A new Builder. -/
theorem Bd.fresh (w : World) : Bd w.heap.size w.heap.size [] (w.alloc (.cells #[.pointer none, .slice none 0 0] 48 (0, 0))) :=
  Or.inl ⟨Nat.le_refl _, .slice none 0 0, heap_alloc_new w _, ⟨rfl, Or.inl ⟨rfl, rfl⟩⟩, by simp [Value.ownBlock]⟩
theorem Bd.below {B b : Nat} {bs : List UInt8} {W W' : World} (h : Bd B b bs W) (hb : Below W.heap.size W W') : Bd B b bs W' := by
  have key : ∀ p, Lib.BuilderAtF 48 5 B b p (Lib.byteCells bs) W → Lib.BuilderAtF 48 5 B b p (Lib.byteCells bs) W' := fun p hp => by
    obtain ⟨h1, v, h2, h3, h4⟩ := hp
    refine ⟨h1, v, (hb.block b (Array.getElem?_eq_some_iff.1 h2).1).trans h2, ⟨h3.1, ?_⟩, h4⟩
    rcases h3.2 with h5 | ⟨g, cap, cur, fz, e1, e2, e3, e4⟩
    · exact Or.inl h5
    · exact Or.inr ⟨g, cap, cur, fz, e1, e2, (hb.block g (Array.getElem?_eq_some_iff.1 e3).1).trans e3, e4⟩
  exact h.elim (fun x => Or.inl (key _ x)) (fun x => Or.inr (key _ x))

theorem setCell_heap_other {W : World} {k g : Nat} (v : Value) (h : g ≠ k) : (W.setCell ⟨k, 0, none⟩ v).heap[g]? = W.heap[g]? := by
  rw [Go.Sort.setCell_eq]
  unfold Go.Sort.mapBlock
  simp [Array.getElem?_modify, Ne.symm h]
theorem Bd.set {B b k : Nat} {bs : List UInt8} {W : World} {v0 : Value} (h : Bd B b bs W) (hx : Boxed W k 3 v0) (hk : k ≠ b) (v : Value) : Bd B b bs (W.setCell ⟨k, 0, none⟩ v) := by
  have key : ∀ p, Lib.BuilderAtF 48 5 B b p (Lib.byteCells bs) W → Lib.BuilderAtF 48 5 B b p (Lib.byteCells bs) (W.setCell ⟨k, 0, none⟩ v) := fun p hp => by
    obtain ⟨h1, u, h2, h3, h4⟩ := hp
    refine ⟨h1, u, (setCell_heap_other v (Ne.symm hk)).trans h2, ⟨h3.1, ?_⟩, h4⟩
    rcases h3.2 with h5 | ⟨g, cap, cur, fz, e1, e2, e3, e4⟩
    · exact Or.inl h5
    · refine Or.inr ⟨g, cap, cur, fz, e1, e2, (setCell_heap_other v (fun e => ?_)).trans e3, e4⟩
      rw [e, show W.heap[k]? = _ from hx] at e3
      cases e3
  exact h.elim (fun x => Or.inl (key _ x)) (fun x => Or.inr (key _ x))
theorem BK.boxed {B b k : Nat} {W W' : World} {v : Value} (h : BK B b W W') (hx : Boxed W k 3 v) (hk : k ≠ b) : Boxed W' k 3 v :=
  h.others k _ hx (fun e => hk (by cases e; rfl)) (fun c fz e => by cases e)

set_option maxRecDepth 100000 in
set_option maxHeartbeats 4000000 in
theorem text_any (v : Value) (ls : List Lb) (w : World) (h : LabsAt w v ls) (hl : ls.length ≤ 1000) (hsh : Short ls) :
    Calls Tryd.prog 13 #[v] w fun e w' => e = .returned (.string ⟨(textL ls).toArray⟩) ∧ Below w.heap.size w w' := by
  obtain ⟨a, c, rfl, hlc, -⟩ := id h
  have HC : Hid (LabsAt w (.slice a ls.length c) ls) := h
  have HS : Hid (Short ls) := hsh
  clear h hsh
  refine (callsIn_wide (n := 9)).1 ?_
  have t1 : Fence.wide.fn 14 := trivial
  have t2 : Fence.wide.fn 24 := trivial
  have t3 : Fence.wide.fn 25 := trivial
  have t4 : Fence.wide.fn 26 := trivial
  have t5 : Fence.wide.fn 10 := trivial
  have t6 : Fence.wide.fn 27 := trivial
  have hbf : Below w.heap.size w (w.alloc (.cells #[.pointer none, .slice none 0 0] 48 (0, 0))) := (Below.refl _ _).alloc (Nat.le_refl _) _
  have hget := get_any _ ls tokB _ (HC.out.below hbf) (by omega)
  refine callsIn_of_wp_marks Tryd.func13 rfl trivial ?_ rfl
  simp only [Tryd.ntmps13, List.size_toArray, List.length_cons, List.length_nil, Nat.reduceAdd, Nat.reduceSub, Array.replicate_succ, Array.replicate_zero, List.push_toArray, List.append_toArray, List.nil_append, List.cons_append]
  have HM : Hid ((getL ls tokB).size ≤ 1024) := getL_short HS.out tokB
  have hfr : Bd w.heap.size w.heap.size [] (w.alloc (.cells #[.pointer none, .slice none 0 0] 48 (0, 0))) := Bd.fresh w
  obtain ⟨m, hm⟩ : ∃ m, m = getL ls tokB := ⟨_, rfl⟩
  rw [← hm] at hget HM
  have hm1024 : m.size ≤ 1024 := HM.out
  have HTX : Hid (textL ls = (foldT m ls).2 ++ endT m (foldT m ls).1) := by
    show _ = _
    unfold textL
    rw [← hm]
  clear hm HM
  gi_wp2_with (first
    | (gi_at_call 14; refine (callsIn_wide.2 hget).mono ?_; rintro e w1 ⟨rfl, hb1⟩; have hB1 := hfr.below hb1; have hbw1 := hbf.trans (hb1.mono hbf.size); have hs1 := hbw1.size; clear hfr hbf hget)
    | (gi_at_call 24; refine (callsIn_wide.2 (ws_any _ _ [] m w1 hB1 (by simp) (by omega) hs1)).mono ?_; rintro e w2 ⟨rfl, hB2, hk2⟩; have hbw2 := hbw1.trans hk2.below; have hs2 := hbw2.size; clear hB1 hk2)
    | (gi_at_call 10; refine (each_in Fence.wide _ t5 rfl _ _ _ _).mono ?_; rintro e w3 ⟨rfl, rfl⟩))
  have hlt12 : w.heap.size < w2.heap.size := by
    obtain ⟨c9, h9⟩ := hB2.block
    exact (Array.getElem?_eq_some_iff.1 h9).1
  obtain ⟨W0, hW0⟩ : ∃ W0, (w2.alloc (Obj.cells #[Value.int IntKind.i64 0] 3)).alloc (Obj.cells #[Value.slice a ls.length c] 22) = W0 := ⟨_, rfl⟩
  have hs0 : W0.heap.size = w2.heap.size + 2 := by rw [← hW0]; simp
  have hbx0 : Boxed W0 w2.heap.size 3 (.int .i64 0) := by rw [← hW0]; exact (Boxed.new w2 3 _).alloc _
  have hce0 : W0.cell? ⟨w2.heap.size + 1, 0, none⟩ = some (.slice a ls.length c) := by
    have h9 := Boxed.new (w2.alloc (Obj.cells #[Value.int IntKind.i64 0] 3)) 22 (.slice a ls.length c)
    rw [World.size_alloc] at h9
    rw [← hW0]
    exact h9.cell
  have hB20 : Below w2.heap.size w2 W0 := by rw [← hW0]; exact ((Below.refl _ _).alloc (Nat.le_refl _) _).alloc (by simp) _
  have hBd0 : Bd w.heap.size w.heap.size m.data.toList W0 := hB2.below hB20
  have hBw0 : Below w.heap.size w W0 := hbw2.trans (hB20.mono hs2)
  rw [hW0]
  clear hW0 hB2 hb1 hbw1 hbw2 hB20
  obtain ⟨xs, hxs⟩ := HS.out.lift
  refine wpIn_rangeFunc_ownF rfl (by omega) (gf := 18) (lb := #[.pointer (some ⟨w2.heap.size + 1, 0, none⟩)]) rfl trivial (enters_of Tryd.func18 (by kernel_rfl) rfl)
    (each_stops (α := SLb) Subtype.val Fence.wide 8 trivial rfl (by omega) (w2.heap.size + 1) w (.slice a ls.length c) xs ls hxs HC.out (by omega) W0 hBw0 (by omega) hce0)
    belowK_t (belowK_b (by omega)) (Below.refl _ _) (fun _ => rfl)
    (fun pre W => (Bd w.heap.size w.heap.size (foldT m (pre.map Subtype.val)).2 W ∧ Boxed W w2.heap.size 3 (.int .i64 (foldT m (pre.map Subtype.val)).1)) ∧ Below w.heap.size w W)
    (fun _ _ _ => False)
    (OwnFrom.and (Own.from (fun s A B row hs hg hr => ⟨hs.1.kept hg hr, cells_kept hs.2 hg hr⟩) _) (ownFrom_below (Nat.le_refl _) (by omega)))
    (fun _ _ _ _ _ hs _ _ => hs)
    ⟨⟨hBd0, hbx0⟩, hBw0⟩
    (fun x => { tmps := #[.slice a ls.length c, undef, .string { data := #[] }, .pointer (some ⟨w.heap.size, 0, none⟩), .string m, .pointer (some ⟨w2.heap.size, 0, none⟩), .string x.1.1, .string x.1.2, .slice a ls.length c, .string m, .string m, .tuple #[.int .i64 m.size, .nilIface], .slice a ls.length c, .func (.func 18) #[] #[.pointer (some ⟨w2.heap.size + 1, 0, none⟩)], .string x.1.1, .string x.1.2, undef, undef, undef, undef, undef, undef, undef, undef, undef, undef, undef, undef, undef, undef, undef, undef, undef, undef, undef, undef, undef, undef], defers := [] }) ?assign ?body ?done ?stop
  case assign =>
    intro l x W K hK
    dsimp only [encP]
    gi_wp2
    exact hK
  case body =>
    rintro l pre ⟨⟨nm, vl⟩, hx1, hx2⟩ W ⟨⟨hBd, hBx⟩, hBw⟩ hpl
    have hbd := foldT_bound m hm1024 pre
    have HF := foldT_snoc m (pre.map Subtype.val) (nm, vl)
    have HI : Hid ((pre ++ [(⟨(nm, vl), hx1, hx2⟩ : SLb)]).map Subtype.val = pre.map Subtype.val ++ [(nm, vl)]) := by show _ = _; simp
    have hsW := hBw.size
    dsimp only at hx1 hx2
    have hdl : nm.data.toList.length = nm.size := by rw [Array.length_toList]; rfl
    obtain ⟨n, hn⟩ : ∃ n, n = (foldT m (pre.map Subtype.val)).1 := ⟨_, rfl⟩
    obtain ⟨bs, hbs⟩ : ∃ bs, bs = (foldT m (pre.map Subtype.val)).2 := ⟨_, rfl⟩
    have HP : Hid (foldT m (pre.map Subtype.val) = (n, bs)) := by show _ = _; rw [hn, hbs]
    rw [← hn, ← hbs] at hbd
    rw [← hbs] at hBd
    rw [← hn] at hBx
    clear hn hbs
    have hne : w2.heap.size ≠ w.heap.size := by omega
    cases htok : nm.toList == [95, 95, 110, 97, 109, 101, 95, 95]
    · have HS2 : Hid (foldT m ((pre ++ [(⟨(nm, vl), hx1, hx2⟩ : SLb)]).map Subtype.val) = (n + 1, bs ++ (if n = 0 then [123] else [44]) ++ nm.data.toList ++ [61] ++ quoteL vl.data.toList)) := by
        show _ = _
        rw [HI.out, HF, HP.out]
        unfold stepT
        rw [if_neg (by rw [htok]; simp)]
      have HK : Hid (KeepsOthers W W) := KeepsOthers.refl W
      have hxC := hBx.cell
      have hxF := hBx.frozen
      have HBD : Hid (Bd w.heap.size w.heap.size bs W) := hBd
      have HST : Hid (∀ (bs' : List UInt8) Wa, BK w.heap.size w.heap.size W Wa → Bd w.heap.size w.heap.size bs' Wa → Boxed Wa w2.heap.size 3 (.int .i64 n) ∧ w.heap.size ≤ Wa.heap.size ∧ Bd w.heap.size w.heap.size bs' (Wa.setCell ⟨w2.heap.size, 0, none⟩ (.int .i64 ((n : Int) + 1))) ∧ Boxed (Wa.setCell ⟨w2.heap.size, 0, none⟩ (.int .i64 ((n : Int) + 1))) w2.heap.size 3 (.int .i64 ((n : Int) + 1)) ∧ w.heap.size ≤ (Wa.setCell ⟨w2.heap.size, 0, none⟩ (.int .i64 ((n : Int) + 1))).heap.size) := fun bs' Wa hk hb => by
        have h1 := hk.boxed hBx hne
        have h2 := Nat.le_trans hsW hk.below.size
        exact ⟨h1, h2, hb.set h1 hne _, h1.set _, by simpa using h2⟩
      clear HF HI
      by_cases h0 : n = 0
      · subst h0
        gi_wp2_with (first
          | (gi_at_call 25; refine (CallsIn.inRound l (callsIn_wide.2 (wb_lit _ _ bs 123 123 rfl W hBd (by omega) hsW))).mono ?_; rintro e Wa ⟨rfl, hBa, hka⟩; obtain ⟨hxa, hsa, hBb, hxb, hsb⟩ := HST.out _ Wa hka hBa; have hxc := hxa.cell; have hxf := hxa.frozen; clear hBd)
          | (gi_at_call 24; refine (CallsIn.inRound l (callsIn_wide.2 (ws_any _ _ _ nm _ hBb (by simp; omega) (by omega) hsb))).mono ?_; rintro e Wc ⟨rfl, hBc, hkc⟩; have hsc := Nat.le_trans hsb hkc.below.size)
          | (gi_at_call 25; refine (CallsIn.inRound l (callsIn_wide.2 (wb_lit _ _ _ 61 61 rfl Wc hBc (by simp [hdl]; omega) hsc))).mono ?_; rintro e Wd ⟨rfl, hBd2, hkd⟩; have hsd := Nat.le_trans hsc hkd.below.size)
          | (gi_at_call 26; refine (CallsIn.inRound l (callsIn_wide.2 (writeQuoted_any _ _ _ vl Wd hBd2 (by simp [hdl]; omega) (by omega) hsd))).mono ?_; rintro e We ⟨rfl, hBe, hke⟩))
        exact ⟨(hka.keeps HBD.out).trans ((KeepsOthers.setCell _ _ _).trans ((hkc.keeps hBb).trans ((hkd.keeps hBc).trans (hke.keeps hBd2)))), hka.below.trans (((Below.refl _ _).setCell (p := ⟨w2.heap.size, 0, none⟩) (by show w.heap.size ≤ w2.heap.size; omega) _).trans (hkc.below.trans (hkd.below.trans hke.below))), ⟨by rw [HS2.out]; exact hBe, by rw [HS2.out]; exact hke.boxed (hkd.boxed (hkc.boxed hxb hne) hne) hne⟩, hBw.trans (hka.below.trans (((Below.refl _ _).setCell (p := ⟨w2.heap.size, 0, none⟩) (by show w.heap.size ≤ w2.heap.size; omega) _).trans (hkc.below.trans (hkd.below.trans hke.below))))⟩
      · have h0i : ¬ (n : Int) = 0 := by omega
        have ecast : ((n + 1 : Nat) : Int) = (n : Int) + 1 := by omega
        have HS3 : Hid (foldT m ((pre ++ [(⟨(nm, vl), hx1, hx2⟩ : SLb)]).map Subtype.val) = (n + 1, bs ++ [44] ++ nm.data.toList ++ [61] ++ quoteL vl.data.toList)) := by
          show _ = _
          rw [HS2.out, if_neg h0]
        clear HS2
        gi_wp2_with (first
          | (gi_at_call 25; refine (CallsIn.inRound l (callsIn_wide.2 (wb_lit _ _ bs 44 44 rfl W hBd (by omega) hsW))).mono ?_; rintro e Wa ⟨rfl, hBa, hka⟩; obtain ⟨hxa, hsa, hBb, hxb, hsb⟩ := HST.out _ Wa hka hBa; have hxc := hxa.cell; have hxf := hxa.frozen; clear hBd)
          | (gi_at_call 24; refine (CallsIn.inRound l (callsIn_wide.2 (ws_any _ _ _ nm _ hBb (by simp; omega) (by omega) hsb))).mono ?_; rintro e Wc ⟨rfl, hBc, hkc⟩; have hsc := Nat.le_trans hsb hkc.below.size)
          | (gi_at_call 25; refine (CallsIn.inRound l (callsIn_wide.2 (wb_lit _ _ _ 61 61 rfl Wc hBc (by simp [hdl]; omega) hsc))).mono ?_; rintro e Wd ⟨rfl, hBd2, hkd⟩; have hsd := Nat.le_trans hsc hkd.below.size)
          | (gi_at_call 26; refine (CallsIn.inRound l (callsIn_wide.2 (writeQuoted_any _ _ _ vl Wd hBd2 (by simp [hdl]; omega) (by omega) hsd))).mono ?_; rintro e We ⟨rfl, hBe, hke⟩))
        exact ⟨(hka.keeps HBD.out).trans ((KeepsOthers.setCell _ _ _).trans ((hkc.keeps hBb).trans ((hkd.keeps hBc).trans (hke.keeps hBd2)))), hka.below.trans (((Below.refl _ _).setCell (p := ⟨w2.heap.size, 0, none⟩) (by show w.heap.size ≤ w2.heap.size; omega) _).trans (hkc.below.trans (hkd.below.trans hke.below))), ⟨by rw [HS3.out]; exact hBe, by rw [HS3.out]; show Boxed _ _ _ (.int .i64 ((n + 1 : Nat) : Int)); rw [ecast]; exact hke.boxed (hkd.boxed (hkc.boxed hxb hne) hne) hne⟩, hBw.trans (hka.below.trans (((Below.refl _ _).setCell (p := ⟨w2.heap.size, 0, none⟩) (by show w.heap.size ≤ w2.heap.size; omega) _).trans (hkc.below.trans (hkd.below.trans hke.below))))⟩
    · have HS2 : foldT m ((pre ++ [(⟨(nm, vl), hx1, hx2⟩ : SLb)]).map Subtype.val) = (n, bs) := by
        rw [HI.out, HF, HP.out]
        unfold stepT
        rw [if_pos htok]
      clear HF HI
      gi_wp2
      exact ⟨KeepsOthers.refl _, Below.refl _ _, ⟨by rw [HS2]; exact hBd, by rw [HS2]; exact hBx⟩, hBw⟩
  case done =>
    rintro D ys W hD rfl ⟨⟨hBd, hBx⟩, hBw⟩ hK
    have hbd := foldT_bound m hm1024 ys
    have hyl : ys.length = ls.length := by rw [← hxs]; simp
    rw [hxs] at hBd hBx hbd
    have hsW := hBw.size
    obtain ⟨n, hn⟩ : ∃ n, n = (foldT m ls).1 := ⟨_, rfl⟩
    obtain ⟨bs, hbs⟩ : ∃ bs, bs = (foldT m ls).2 := ⟨_, rfl⟩
    rw [← hn, ← hbs] at hbd HTX
    rw [← hbs] at hBd
    rw [← hn] at hBx
    clear hn hbs hxs hBd0 hbx0 hBw0 hce0
    have hxC := hBx.cell
    have HK : Hid (W.heap[D]? = some (.deferred (some []))) := hK
    clear hK
    by_cases h0 : 0 < n
    · have h0i : (0 : Int) < (n : Int) := by omega
      have HTY : Hid (textL ls = bs ++ [125]) := by
        show _ = _
        rw [HTX.out]
        unfold endT
        rw [if_pos h0]
      clear HTX
      gi_wp2_with (first
        | (gi_at_call 25; refine (callsIn_wide.2 (wb_lit _ _ bs 125 125 rfl W hBd (by omega) hsW)).mono ?_; rintro e Wa ⟨rfl, hBa, hka⟩; have hsa := Nat.le_trans hsW hka.below.size)
        | (gi_at_call 27; refine (callsIn_wide.2 (Any.Builder_String_any_k Tryd.lays169 Tryd.Builder_Extra_169 _ _ (bs ++ [125]) Wa hBa hsa)).mono ?_; rintro e Wb ⟨rfl, hBb, hkb, hkb2⟩))
      have hkk : BK w.heap.size w.heap.size Wa Wb := ⟨hkb, hkb2⟩
      have hKb := ((hka.keeps hBd).trans (hkk.keeps hBa)).same D _ HK.out rfl
      refine ⟨by simp, .inl ⟨_, _, rfl, run_takeDeferred hKb, ?_⟩⟩
      exact ⟨_, results_tmp rfl _ _ _, by rw [HTY.out]; rfl, (hBw.trans (hka.below.trans hkb)).trans (belowK_b (w := w) (Nat.le_refl _) Wb D _ _ (by omega) hKb rfl rfl)⟩
    · have hn0 : n = 0 := by omega
      subst hn0
      cases hm0 : m.toList.isEmpty
      · have hm1 : ¬ m.toList = [] := fun e => by rw [e] at hm0; cases hm0
        have HTY : Hid (textL ls = bs) := by
          show _ = _
          rw [HTX.out]
          unfold endT
          rw [if_neg (by omega), if_neg (by rw [hm0]; simp), List.append_nil]
        clear HTX
        gi_wp2_with (gi_at_call 27; refine (callsIn_wide.2 (Any.Builder_String_any_k Tryd.lays169 Tryd.Builder_Extra_169 _ _ bs W hBd hsW)).mono ?_; rintro e Wb ⟨rfl, hBb, hkb, hkb2⟩)
        have hkk : BK w.heap.size w.heap.size W Wb := ⟨hkb, hkb2⟩
        have hKb := (hkk.keeps hBd).same D _ HK.out rfl
        refine ⟨by simp, .inl ⟨_, _, rfl, run_takeDeferred hKb, ?_⟩⟩
        exact ⟨_, results_tmp rfl _ _ _, by rw [HTY.out]; rfl, (hBw.trans hkb).trans (belowK_b (w := w) (Nat.le_refl _) Wb D _ _ (by omega) hKb rfl rfl)⟩
      · have hm1 : m.toList = [] := by simpa using hm0
        have HTY : Hid (textL ls = bs ++ [123, 125]) := by
          show _ = _
          rw [HTX.out]
          unfold endT
          rw [if_neg (by omega), if_pos hm0]
        clear HTX
        gi_wp2_with (first
          | (gi_at_call 24; refine (callsIn_wide.2 (ws_any _ _ bs ⟨#[123, 125]⟩ W hBd (by omega) (by decide) hsW)).mono ?_; rintro e Wa ⟨rfl, hBa, hka⟩; have hsa := Nat.le_trans hsW hka.below.size)
          | (gi_at_call 27; refine (callsIn_wide.2 (Any.Builder_String_any_k Tryd.lays169 Tryd.Builder_Extra_169 _ _ (bs ++ [123, 125]) Wa hBa hsa)).mono ?_; rintro e Wb ⟨rfl, hBb, hkb, hkb2⟩))
        have hkk : BK w.heap.size w.heap.size Wa Wb := ⟨hkb, hkb2⟩
        have hKb := ((hka.keeps hBd).trans (hkk.keeps hBa)).same D _ HK.out rfl
        refine ⟨by simp, .inl ⟨_, _, rfl, run_takeDeferred hKb, ?_⟩⟩
        exact ⟨_, results_tmp rfl _ _ _, by rw [HTY.out]; rfl, (hBw.trans (hka.below.trans hkb)).trans (belowK_b (w := w) (Nat.le_refl _) Wb D _ _ (by omega) hKb rfl rfl)⟩
  case stop =>
    rintro D c pre W _ _ hF _
    exact hF.elim

end Go.Proofs.YtlfcnekmdojabaaDoor
