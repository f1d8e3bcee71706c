/- Texts that belong together. -/
import Derived.Test.YtipakfdebccchaaMS3
/- The document's disk: Read. -/
namespace Go.Proofs.Ytipakfdebccchaa
open Go.RowKit Go.Maps Go.Sort

section
variable {w : World} {r base : Nat} {a : RA} (h : RefIs w r base a) (hl : a.dir.length ≤ 1000000000) (name : ByteArray) (hs : name.size ≤ maxLen)
include h hl hs

set_option maxHeartbeats 1000000 in
theorem refRead_bad (hr : rn name = false) :
    Calls Try.prog 25 #[.pointer (some ⟨r, 0, none⟩), .string name] w fun e w' => e = .returned (.tuple #[.slice none 0 0, .int .i64 2]) ∧ w' = w := by
  obtain ⟨s, hI, rfl, rfl⟩ := h
  have hl' : s.dir.length ≤ 1000000000 := hl
  clear hl
  obtain ⟨c0, c1, c2, c3, c4, c5, c6, c7, cf⟩ := hI.at_.cells
  go_enter Try.func25, Try.ntmps25
  go_wp2_with (first
    | (go_at_call 47; refine (refAt_any _ s.dir name _ _ hI.rD hl').mono ?_; rintro e w2 ⟨⟨i, rfl, hi⟩, rfl⟩; clear hi)
    | (go_at_call 48; refine (refRight_any name _ hs).mono ?_; rintro e w2 ⟨rfl, rfl⟩; rw [hr]))
  go_ret2
  exact ⟨rfl, rfl⟩

variable (hr : rn name = true)
include hr

set_option maxHeartbeats 1000000 in
theorem refRead_none (hat : ∀ i, Stands a.dir name i → i < 0) :
    Calls Try.prog 25 #[.pointer (some ⟨r, 0, none⟩), .string name] w fun e w' => e = .returned (.tuple #[.slice none 0 0, .int .i64 3]) ∧ w' = w := by
  obtain ⟨s, hI, rfl, rfl⟩ := h
  have hl' : s.dir.length ≤ 1000000000 := hl
  have HA : Hid (∀ i, Stands s.dir name i → i < 0) := hat
  clear hl hat
  obtain ⟨c0, c1, c2, c3, c4, c5, c6, c7, cf⟩ := hI.at_.cells
  go_enter Try.func25, Try.ntmps25
  go_wp2_with (first
    | (go_at_call 47; refine (refAt_any _ s.dir name _ _ hI.rD hl').mono ?_; rintro e w2 ⟨⟨i, rfl, hi⟩, rfl⟩; have hi0 := stands_neg hi (HA.out _ hi); clear hi; subst hi0)
    | (go_at_call 48; refine (refRight_any name _ hs).mono ?_; rintro e w2 ⟨rfl, rfl⟩; rw [hr]))
  go_ret2
  exact ⟨rfl, rfl⟩

set_option maxRecDepth 100000 in
set_option maxHeartbeats 4000000 in
theorem refRead_ok (hfl : a.files.length ≤ 1000000000) (k m : Nat) (hk : k < a.dir.length) (hat : ∀ i, Stands a.dir name i → i = k) (hf : a.dir[k].2 = m) (bs : List UInt8) (n0 : Int) (hm : a.files[m]? = some (bs, n0)) (hlb : bs.length ≤ 1000000000) :
    Calls Try.prog 25 #[.pointer (some ⟨r, 0, none⟩), .string name] w fun e w' => ∃ v, e = .returned (.tuple #[v, .int .i64 0]) ∧ w'.ownsRow w.heap.size 5 1 v bs.length (byteVals bs) ∧ Below w.heap.size w w' := by
  obtain ⟨s, hI, rfl, rfl⟩ := h
  have hl' : s.dir.length ≤ 1000000000 := hl
  have HA : Hid (∀ i, Stands s.dir name i → i = k) := hat
  have hk' : k < s.dir.length := hk
  have hm' : (s.files.map Prod.snd)[m]? = some (bs, n0) := hm
  rw [List.getElem?_map, Option.map_eq_some_iff] at hm'
  obtain ⟨⟨v, x1, x2⟩, hx, hy⟩ := hm'
  simp at hy
  obtain ⟨rfl, rfl⟩ := hy
  obtain ⟨hml, hme⟩ := List.getElem?_eq_some_iff.1 hx
  have hfl' : s.files.length ≤ 1000000000 := by simpa [RSt.abs] using hfl
  obtain ⟨g, gc, hg⟩ := row_some hI.rD (by omega)
  have hgc := (hI.entry hk' hg).2
  have hf' : s.dir[k].2 = m := hf
  rw [hf'] at hgc
  obtain ⟨g2, gc2, hg2⟩ := row_some hI.rF (by omega)
  obtain ⟨y0, y1⟩ := hI.file hml hg2
  have hrb := hI.bytes _ (List.getElem_mem hml)
  rw [hme] at y0 hrb
  have hrb' : BytesAt w v x1 := hrb.at_
  have y0' : w.cell? ⟨g2, m * 2, none⟩ = some v := y0
  obtain ⟨oa, oc, ho, _⟩ := hrb'.shape
  rw [ho] at y0'
  obtain ⟨c0, c1, c2, c3, c4, c5, c6, c7, cf⟩ := hI.at_.cells
  have hD := hI.rD
  rw [hg] at c2 hD
  rw [hg2] at c1
  have hrl := hI.at_.lt
  have hgl : g < w.heap.size := (hD.lt g rfl).2
  have hgl2 : g2 < w.heap.size := (hI.rF.lt g2 (by rw [hg2]; rfl)).2
  have HB : Hid (∀ w1, Below w.heap.size w w1 → BytesAt w1 (.slice oa x1.length oc) x1) := fun w1 hb1 => ho ▸ hrb'.below hb1
  have HR : Hid (∀ w1, Below w.heap.size w w1 → w1.cell? ⟨r, 1, none⟩ = some (.slice (some ⟨g2, 0, none⟩) s.files.length gc2) ∧ w1.cell? ⟨r, 2, none⟩ = some (.slice (some ⟨g, 0, none⟩) s.dir.length gc) ∧ w1.cell? ⟨g, k * 2 + 1, none⟩ = some (.int .i64 m) ∧ w1.cell? ⟨g2, m * 2, none⟩ = some (.slice oa x1.length oc)) := fun w1 hb1 => ⟨(hb1.cell (p := ⟨r, 1, none⟩) hrl).trans c1, (hb1.cell (p := ⟨r, 2, none⟩) hrl).trans c2, (hb1.cell (p := ⟨g, k * 2 + 1, none⟩) hgl).trans hgc, (hb1.cell (p := ⟨g2, m * 2, none⟩) hgl2).trans y0'⟩
  have HX : Hid (∀ w0 w1, Below w.heap.size w w0 → w.heap.size ≤ w0.heap.size → w0.grownBy w1 (Value.slice (some ⟨w.heap.size, 0, none⟩) 0 0).ownBlock → Below w.heap.size w w1) := fun w0 w1 h0 hz hg1 => h0.grown hg1 hz (fun k hk => by simp [Value.ownBlock] at hk; omega)
  have hbm : Below w.heap.size w ((w.alloc (.cells #[] 5)).drew) := ((Below.refl _ w).alloc (Nat.le_refl _) _).drew
  have HBM : Hid (Below w.heap.size w ((w.alloc (.cells #[] 5)).drew)) := hbm
  have HM : Hid (((w.alloc (.cells #[] 5)).drew).ownsRow w.heap.size 5 1 (.slice (some ⟨w.heap.size, 0, none⟩) 0 0) 0 []) := (World.ownsRow_made w #[] 0 (Nat.le_refl _) (Nat.zero_le _) rfl).drew
  obtain ⟨z1, z2, z3, z4⟩ := HR.out _ hbm
  clear hl hat hk hm hfl hx y0 hrb hrb' ho hg hg2 hf hf' hbm y1 hme
  go_enter Try.func25, Try.ntmps25
  go_wp2_with (first
    | (go_at_call 47; refine (refAt_any _ s.dir name _ _ hD hl').mono ?_; rintro e w2 ⟨⟨i, rfl, hi⟩, rfl⟩; have hi0 := HA.out _ hi; clear hi; subst hi0)
    | (go_at_call 48; refine (refRight_any name _ hs).mono ?_; rintro e w2 ⟨rfl, rfl⟩; rw [hr]))
  go_region_law (first
    | (refine step_append_bytes _ (by rfl) _ _ (by rfl) _ _ 0 [] (by rfl) HM.out _ x1 (by rfl) (HB.out _ HBM.out) (by omega) (by simp) ?_; intro a1 b1 w1 ho1 hg1 hl1; clear hl1; rw [Nat.zero_add, List.nil_append] at ho1; have hbel1 := HX.out _ _ HBM.out HBM.out.size hg1))
  all_goals
    go_wp2
    go_ret2
    exact ⟨_, rfl, ho1, hbel1⟩
end

end Go.Proofs.Ytipakfdebccchaa

/- The document's disk: Rename. -/
namespace Go.Proofs.Ytipakfdebccchaa
open Go.RowKit Go.Maps Go.Sort

section
variable {w : World} {r base : Nat} {a : RA} {st : Int} (hb : Begins w r base a 0 st) (hl : a.dir.length ≤ 1000000000) (old name : ByteArray) (hs : old.size ≤ maxLen) (hs' : name.size ≤ maxLen)
include hb hl hs hs'

set_option maxHeartbeats 2000000 in
theorem refRename_bad (hr : rn old = false ∨ rn name = false) :
    Calls Try.prog 55 #[.pointer (some ⟨r, 0, none⟩), .string old, .string name] w fun e w' => e = .returned (.int .i64 2) ∧ RefIs w' r base a ∧ KT (refS base) w w' := by
  unfold Begins at hb
  have HF : Hid (∀ w1 s, IsRef w1 r s → s.base = base → s.abs = a → RefIs w1 r base a ∧ s.dir.length ≤ 1000000000) := fun w1 s h1 h2 h3 => ⟨⟨s, h1, h2, h3⟩, by rw [← h3] at hl; exact hl⟩
  clear hl
  have h1 : ∀ w, Calls Try.prog 48 #[.string old] w fun e w' => e = .returned (.bool (rn old)) ∧ w' = w := fun w => refRight_any old w hs
  have h2 : ∀ w, Calls Try.prog 48 #[.string name] w fun e w' => e = .returned (.bool (rn name)) ∧ w' = w := fun w => refRight_any name w hs'
  have H1 : Hid (∀ w, Calls Try.prog 48 #[.string old] w fun e w' => e = .returned (.bool (rn old)) ∧ w' = w) := h1
  have H2 : Hid (∀ w, Calls Try.prog 48 #[.string name] w fun e w' => e = .returned (.bool (rn name)) ∧ w' = w) := h2
  clear h1 h2
  generalize rn old = x at *
  generalize rn name = y at *
  cases x
  · clear hr
    go_enter Try.func55, Try.ntmps55
    go_wp2_with (first
      | (go_at_call 68; refine hb.mono ?_; rintro e w1 ⟨rfl, ⟨s, hI, hsb, hsa⟩, hk⟩; obtain ⟨hR, hl'⟩ := HF.out _ _ hI hsb hsa; clear hsb hsa; obtain ⟨c0, c1, c2, c3, c4, c5, c6, c7, cf⟩ := hI.at_.cells)
      | (go_at_call 47; refine (refAt_any _ s.dir old _ _ hI.rD hl').mono ?_; rintro e w2 ⟨⟨i, rfl, hi⟩, rfl⟩; clear hi)
      | (go_at_call 48; refine (H1.out _).mono ?_; rintro e w2 ⟨rfl, rfl⟩; clear H1)
      | (go_at_call 48; refine (H2.out _).mono ?_; rintro e w2 ⟨rfl, rfl⟩; clear H2))
    go_ret
    exact ⟨rfl, hR, hk⟩
  · have e : y = false := by simpa using hr
    subst e
    clear hr
    go_enter Try.func55, Try.ntmps55
    go_wp2_with (first
      | (go_at_call 68; refine hb.mono ?_; rintro e w1 ⟨rfl, ⟨s, hI, hsb, hsa⟩, hk⟩; obtain ⟨hR, hl'⟩ := HF.out _ _ hI hsb hsa; clear hsb hsa; obtain ⟨c0, c1, c2, c3, c4, c5, c6, c7, cf⟩ := hI.at_.cells)
      | (go_at_call 47; refine (refAt_any _ s.dir old _ _ hI.rD hl').mono ?_; rintro e w2 ⟨⟨i, rfl, hi⟩, rfl⟩; clear hi)
      | (go_at_call 48; refine (H1.out _).mono ?_; rintro e w2 ⟨rfl, rfl⟩; clear H1)
      | (go_at_call 48; refine (H2.out _).mono ?_; rintro e w2 ⟨rfl, rfl⟩; clear H2))
    go_ret
    exact ⟨rfl, hR, hk⟩

variable (hr : rn old = true) (hr' : rn name = true)
include hr hr'

set_option maxHeartbeats 2000000 in
theorem refRename_none (hat : ∀ i, Stands a.dir old i → i < 0) :
    Calls Try.prog 55 #[.pointer (some ⟨r, 0, none⟩), .string old, .string name] w fun e w' => e = .returned (.int .i64 3) ∧ RefIs w' r base a ∧ KT (refS base) w w' := by
  unfold Begins at hb
  have HF : Hid (∀ w1 s, IsRef w1 r s → s.base = base → s.abs = a → RefIs w1 r base a ∧ s.dir.length ≤ 1000000000 ∧ Hid (∀ i, Stands s.dir old i → i < 0)) := fun w1 s h1 h2 h3 => ⟨⟨s, h1, h2, h3⟩, by rw [← h3] at hl; exact hl, by rw [← h3] at hat; exact hat⟩
  clear hat hl
  have H1 : Hid (∀ w, Calls Try.prog 48 #[.string old] w fun e w' => e = .returned (.bool true) ∧ w' = w) := fun w => by have := refRight_any old w hs; rw [hr] at this; exact this
  have H2 : Hid (∀ w, Calls Try.prog 48 #[.string name] w fun e w' => e = .returned (.bool true) ∧ w' = w) := fun w => by have := refRight_any name w hs'; rw [hr'] at this; exact this
  go_enter Try.func55, Try.ntmps55
  go_wp2_with (first
    | (go_at_call 68; refine hb.mono ?_; rintro e w1 ⟨rfl, ⟨s, hI, hsb, hsa⟩, hk⟩; obtain ⟨hR, hl', HA⟩ := HF.out _ _ hI hsb hsa; clear hsb hsa; obtain ⟨c0, c1, c2, c3, c4, c5, c6, c7, cf⟩ := hI.at_.cells)
    | (go_at_call 47; refine (refAt_any _ s.dir old _ _ hI.rD hl').mono ?_; rintro e w2 ⟨⟨i, rfl, hi⟩, rfl⟩; have hi0 := stands_neg hi (HA.out _ hi); clear hi; subst hi0)
    | (go_at_call 48; refine (H1.out _).mono ?_; rintro e w2 ⟨rfl, rfl⟩; clear H1)
    | (go_at_call 48; refine (H2.out _).mono ?_; rintro e w2 ⟨rfl, rfl⟩; clear H2))
  go_ret
  exact ⟨rfl, hR, hk⟩

set_option maxHeartbeats 2000000 in
theorem refRename_same (hat : ∀ i, Stands a.dir old i → 0 ≤ i) (he : old = name) :
    Calls Try.prog 55 #[.pointer (some ⟨r, 0, none⟩), .string old, .string name] w fun e w' => e = .returned (.int .i64 0) ∧ RefIs w' r base a ∧ KT (refS base) w w' := by
  unfold Begins at hb
  have HF : Hid (∀ w1 s, IsRef w1 r s → s.base = base → s.abs = a → RefIs w1 r base a ∧ s.dir.length ≤ 1000000000 ∧ Hid (∀ i, Stands s.dir old i → 0 ≤ i)) := fun w1 s h1 h2 h3 => ⟨⟨s, h1, h2, h3⟩, by rw [← h3] at hl; exact hl, by rw [← h3] at hat; exact hat⟩
  clear hat hl
  have H1 : Hid (∀ w, Calls Try.prog 48 #[.string old] w fun e w' => e = .returned (.bool true) ∧ w' = w) := fun w => by have := refRight_any old w hs; rw [hr] at this; exact this
  have H2 : Hid (∀ w, Calls Try.prog 48 #[.string name] w fun e w' => e = .returned (.bool true) ∧ w' = w) := fun w => by have := refRight_any name w hs'; rw [hr'] at this; exact this
  subst he
  have hse : (old.toList == old.toList) = true := beq_self_eq_true _
  go_enter Try.func55, Try.ntmps55
  go_wp2_with (first
    | (go_at_call 68; refine hb.mono ?_; rintro e w1 ⟨rfl, ⟨s, hI, hsb, hsa⟩, hk⟩; obtain ⟨hR, hl', HA⟩ := HF.out _ _ hI hsb hsa; clear hsb hsa; obtain ⟨c0, c1, c2, c3, c4, c5, c6, c7, cf⟩ := hI.at_.cells)
    | (go_at_call 47; refine (refAt_any _ s.dir old _ _ hI.rD hl').mono ?_; rintro e w2 ⟨⟨i, rfl, hi⟩, rfl⟩; have hi0 := HA.out _ hi; clear hi)
    | (go_at_call 48; refine (H1.out _).mono ?_; rintro e w2 ⟨rfl, rfl⟩; clear H1)
    | (go_at_call 48; refine (H2.out _).mono ?_; rintro e w2 ⟨rfl, rfl⟩; clear H2))
  all_goals first | (go_ret; exact ⟨rfl, hR, hk⟩) | (exfalso; simp at *; omega)

set_option maxRecDepth 100000 in
set_option maxHeartbeats 4000000 in
theorem refRename_done (hp : a.pend.length ≤ 1000000000) (k : Nat) (hk : k < a.dir.length) (hat : ∀ i, Stands a.dir old i → i = k) (f : Int) (hf : a.dir[k].2 = f) (he : (old.toList == name.toList) = false) :
    Calls Try.prog 55 #[.pointer (some ⟨r, 0, none⟩), .string old, .string name] w fun e w' => e = .returned (.int .i64 0) ∧ RefIs w' r base (a.rename old name f) ∧ KT (refS base) w w' := by
  unfold Begins at hb
  have HF : Hid (∀ w1 s, IsRef w1 r s → s.abs = a → s.dir.length ≤ 1000000000 ∧ s.pend.length ≤ 1000000000 ∧ k < s.dir.length ∧ (∃ g c, s.dv = .slice (some ⟨g, 0, none⟩) s.dir.length c ∧ w1.cell? ⟨g, k * 2 + 1, none⟩ = some (.int .i64 f)) ∧ Hid (∀ i, Stands s.dir old i → i = k)) := fun w1 s h1 h3 => by
    subst h3
    have hk' : k < s.dir.length := hk
    refine ⟨hl, hp, hk, ?_, hat⟩
    obtain ⟨g, c, hg⟩ := row_some h1.rD (by omega)
    have := (h1.entry hk' hg).2
    have hf' : s.dir[k].2 = f := hf
    rw [hf'] at this
    exact ⟨g, c, hg, this⟩
  clear hat hl hp hf hk
  have H1 : Hid (∀ w, Calls Try.prog 48 #[.string old] w fun e w' => e = .returned (.bool true) ∧ w' = w) := fun w => by have := refRight_any old w hs; rw [hr] at this; exact this
  have H2 : Hid (∀ w, Calls Try.prog 48 #[.string name] w fun e w' => e = .returned (.bool true) ∧ w' = w) := fun w => by have := refRight_any name w hs'; rw [hr'] at this; exact this
  obtain ⟨i96, hi96, hz96, hs96, hb96⟩ := info_parts info96
  go_enter Try.func55, Try.ntmps55
  go_wp2_with (first
    | (go_at_call 68; refine hb.mono ?_; rintro e w1 ⟨rfl, ⟨s, hI, hsb, hsa⟩, hkt⟩; obtain ⟨hl, hp, hk, ⟨g, gc, hg, hgc⟩, HA⟩ := HF.out _ _ hI hsa; have HSA : Hid (s.abs = a) := hsa; have HSB : Hid (s.base = base) := hsb; clear hsa; rw [← hsb] at hkt; clear hsb; obtain ⟨c0, c1, c2, c3, c4, c5, c6, c7, cf⟩ := hI.at_.cells; have hul := unsetL_length s.dir old; have HG : Hid (s.dv = .slice (some ⟨g, 0, none⟩) s.dir.length gc) := hg; rw [hg] at c2; have hD := hI.rD; rw [hg] at hD; clear hg)
    | (go_at_call 47; refine (refAt_any _ s.dir old _ _ hD hl).mono ?_; rintro e w2 ⟨⟨i, rfl, hi⟩, rfl⟩; have hi0 := HA.out _ hi; clear hi; subst hi0)
    | (go_at_call 48; refine (H1.out _).mono ?_; rintro e w2 ⟨rfl, rfl⟩; clear H1)
    | (go_at_call 48; refine (H2.out _).mono ?_; rintro e w2 ⟨rfl, rfl⟩; clear H2)
    | (go_at_call 45; refine (refUnset_any _ s.dir old _ _ hD hl).mono ?_; rintro e w3 ⟨v3, rfl, hr3, hb3⟩; obtain ⟨v3a, v3c, rfl⟩ := slice_of_row hr3)
    | (go_at_call 44; refine (refSet_any _ (unsetL s.dir old) name _ _ _ hr3 (by omega)).mono ?_; rintro e w4 ⟨v4, rfl, hr4, hb4⟩; obtain ⟨v4a, v4c, rfl⟩ := slice_of_row hr4; obtain ⟨hI3, hk3, ha3⟩ := hI.setDir hr4 (by have h9 := hI.room; have h8 := hb3.size; omega) (hb3.trans (hb4.mono hb3.size)); obtain ⟨e0, e1, e2, e3, e4, e5, e6, e7, ef⟩ := ha3.cells; clear c0 c1 c2 c3 c4 c5 c6 c7 cf)
    | (at_builtin; refine wpList_append_own_at _ rfl _ _ 38 rfl s.base 85 i96 _ 4 48 Try.underlying38 hi96 hz96 hs96 hb96 rfl (by decide) s.pv s.pend.length (rcCells s.pend) rfl (hI3.rP.alloc _) ⟨w4.heap.size, 0, none⟩ 1 1 [.int .i64 2, .string old, .string name, .int .i64 f] rfl rfl (World.news_of_block (cs := #[.int .i64 2, .string old, .string name, .int .i64 f]) (t := 85) (fr := (0, 0)) (new_behind w4 _ _ _)) (by simp [Value.oneCell']) (by unfold maxLen; omega) (by omega) (by have h9 := hI3.room; simp [World.setCell] at h9 ⊢; omega) ?_; intro v5 w5 hown5 hgrow5 hnil5 hloc5; obtain ⟨hI5, hk5, ha5⟩ := hI3.addPend (x := (2, old, name, f)) hown5 hgrow5; obtain ⟨v5a, v5c, rfl⟩ := slice_of_row hown5; obtain ⟨f0, f1, f2, f3, f4, f5, f6, f7, ff⟩ := ha5.cells; clear e0 e1 e2 e3 e4 e5 e6 e7 ef hnil5 hloc5))
  go_ret
  have hkk := (hkt.trans hk3).trans hk5
  rw [HSB.out] at hkk
  refine ⟨rfl, RefIs.of hI5 HSB.out HSA.out rfl (fun h => ?_), hkk⟩
  subst h
  rfl
end

end Go.Proofs.Ytipakfdebccchaa
