/- The pair's Append. -/
import Derived.Test.YtipakfdebccchaaMF9
namespace Go.Proofs.Ytipakfdebccchaa
open Go.RowKit Go.Maps Go.Sort

theorem AB.below {w w' : World} {base : Nat} {v : Value} {bs : List UInt8} (h : AB w base v bs) (hb : Below base w w') : AB w' base v bs := by
  refine ⟨?_, h.2⟩
  have k : Kept (fun i => base ≤ i) w w' := ⟨hb.os, hb.tape, hb.output, hb.size, fun i _ hi => hb.block i (by omega)⟩
  exact h.1.kept k (fun b hb1 hne e => by have := h.2 b hb1 hne; omega)

/-- While bytes are lent. -/
structure MA (w V : World) (p d r B base : Nat) (x : OpV) (bv : Value) (bs : List UInt8) (g c lo : Nat) (ZP : Nat → Prop) (k1 : Nat) (s1 s2 : RA) : Prop where
  both : Both p d r B x 1 V
  prog : PIs V d base k1 ZP s1
  doc : RefIs V r base s2
  row : V.ownsRow lo 5 1 (.slice (some ⟨g, 0, none⟩) (bs.length + 4) c) (bs.length + 4) (byteVals (bs ++ marks))
  ab : AB V base bv bs
  bel : Below base w V
  bw : base ≤ V.heap.size

section
variable {w V : World} {p d r B base : Nat} {x : OpV} {bv : Value} {bs : List UInt8} {g c lo : Nat} {ZP : Nat → Prop} {k1 : Nat} {s1 s2 : RA} (h : MA w V p d r B base x bv bs g c lo ZP k1 s1 s2)
include h
theorem MA.drew : MA w V.drew p d r B base x bv bs g c lo ZP k1 s1 s2 := by
  have hb : Below V.heap.size V V.drew := (Below.refl _ V).drew
  exact ⟨h.both.below hb, h.prog.below hb, h.doc.below hb, row_still h.row hb, ⟨h.ab.1.below hb, h.ab.2⟩, h.bel.drew, h.bw⟩
theorem MA.step {w1 : World} {b : RA} {k2 : Nat} (hg : ¬ ZP g) (hZ : ∀ q, ZP q → s2.zone q) (hP : PIs w1 d base k2 (newZ ZP V w1) b) (hK : KP ZP base V w1) : MA w w1 p d r B base x bv bs g c lo (newZ ZP V w1) k2 b (s2.withZ (newZ s2.zone V w1)) := by
  have hbl : Below base V w1 := hK.toBelow h.bw
  refine ⟨h.both.prog hK, hP, h.doc.prog (hK.wide hZ), ?_, h.ab.below hbl, h.bel.trans hbl, Nat.le_trans h.bw hK.size⟩
  obtain ⟨cs, fr, e⟩ := row_block h.row (k := g) rfl
  refine Kept.ownsRow (O := PO ZP base V) hK h.row (fun q hq => ?_)
  simp [Value.ownBlock] at hq
  subst hq
  exact po_no e (by decide) (by decide) (by decide) (fun _ => hg)
theorem MA.turn {w2 : World} {s3 : RA} (hR : RefIs w2 r base s3) (hK : KT (refS base) V w2) : MA w w2 p d r B base x bv bs g c lo ZP k1 s1 s3 := by
  have hbl : Below base V w2 := hK.toBelow h.bw (Nat.le_refl _)
  exact ⟨h.both.doc hK, h.prog.doc hK, hR, hK.ownsRow h.row (noR rfl), h.ab.below hbl, h.bel.trans hbl, Nat.le_trans h.bw hK.size⟩
theorem MA.done {w3 : World} (hk : Kept (fun i => i = g) V w3) (hg : ¬ ZP g) (hg2 : s2.zone g) (hlo : base ≤ lo) (hZ : ∀ q, ZP q → s2.zone q) (hs : ∃ Z, s2 = s1.withZ Z) (hi : Inv k1 k1 s1) : PW w3 p d r base k1 (s1.withZ ZP) ∧ Below base w w3 := by
  obtain ⟨cs, fr, e⟩ := row_block h.row (k := g) rfl
  have hgb : base ≤ g := Nat.le_trans hlo (h.row.lt g rfl).1
  obtain ⟨Z, rfl⟩ := hs
  refine ⟨⟨hk.heap h.both.1 (fun e' => ?_), (h.prog.kept hk (fun i hi' e' => ?_)).withZ _, ?_, hi.withZ _⟩, h.bel.trans (hk.toBelow h.bw (fun i e' => by rw [e']; exact hgb))⟩
  · have e1 := h.both.1
    rw [e', e] at e1
    simp at e1
  · have e'' : i = g := e'
    rw [e''] at hi'
    exact po_no (Z := ZP) (base := base) e (by decide) (by decide) (by decide) (fun _ => hg) hi'
  · exact (h.doc.touch hk hg2 ⟨cs, fr, e⟩).shrink hZ
end

theorem PIs.lentOk {w : World} {d base k : Nat} {Z : Nat → Prop} {a : RA} {s : St} {fs : Nat → FileV} {blk : List Nat} (h : PS w d base k Z a s fs blk) {g : Nat} (e : ∃ cs fr, w.heap[g]? = some (.cells cs 5 fr)) : ¬ s.own d g := by
  obtain ⟨cs, fr, e⟩ := e
  intro hg
  rcases hg with rfl | rfl | rfl | rfl | hg
  · have := h.disk.at_
    unfold DiskAt at this
    rw [e] at this
    simp at this
  · obtain ⟨es, c, e', _⟩ := h.disk.mN
    rw [e] at e'; cases e'
  · obtain ⟨es, c, e', _⟩ := h.disk.mD
    rw [e] at e'; cases e'
  · obtain ⟨es, c, e', _⟩ := h.disk.mF
    rw [e] at e'; cases e'
  · obtain ⟨cs', fr', e'⟩ := row_block h.disk.row hg
    rw [e] at e'
    simp at e'

section
variable {w : World} {p d r base k : Nat} {a : RA} (h : PW w p d r base k a) (hk : k ≤ 999) (x : OpV) (hbw : base ≤ w.heap.size) (hs : x.name.size ≤ maxLen) (ba : Option Addr) (bc : Nat) (bs : List UInt8) (hab : AB w base (.slice ba bs.length bc) bs) (hbl : bs.length ≤ 200)
include h hk hbw hs hab hbl

/-- What holds where the bytes have been lent. -/
theorem app_lent {W V : World} {g c : Nat} (hB : Both p d r w.heap.size x 1 W) (hW : PW W p d r base k a) (hw : Below w.heap.size w W) (hrow : V.ownsRow W.heap.size 5 1 (.slice (some ⟨g, 0, none⟩) (bs.length + 4) c) (bs.length + 4) (byteVals (bs ++ marks))) (hV : Below W.heap.size W V) :
    MA w V p d r w.heap.size base x (.slice ba bs.length bc) bs g c W.heap.size a.zone k a (a.withZ (newZ a.zone W V)) := by
  have := hk
  have := hs
  have := hbl
  have := h
  have h1 : base ≤ W.heap.size := Nat.le_trans hbw hw.size
  have h2 : Below base w W := hw.mono hbw
  have h3 : Below base w V := h2.trans (hV.mono h1)
  exact ⟨hB.below hV, hW.prog.below hV, hW.doc.fresh hV, hrow, hab.below h3, h3, Nat.le_trans h1 hV.size⟩

theorem app_prog {W V : World} {g c : Nat} (hM : MA w V p d r w.heap.size base x (.slice ba bs.length bc) bs g c W.heap.size a.zone k a (a.withZ (newZ a.zone W V))) (hg : ¬ a.zone g) (hVW : W.heap.size ≤ V.heap.size) :
    Calls Try.prog 34 #[.pointer (some ⟨d, 0, none⟩), .string x.name, .slice (some ⟨g, 0, none⟩) bs.length c] V fun e w1 => e = .returned (.int .i64 (a.doAppend x.name bs).1) ∧ MA w w1 p d r w.heap.size base x (.slice ba bs.length bc) bs g c W.heap.size (newZ a.zone V w1) (k + 1) (a.doAppend x.name bs).2 (a.withZ (newZ (newZ a.zone W V) V w1)) := by
  have := hbw
  have := hab
  have := hVW
  obtain ⟨s, fs, blk, hP⟩ := hM.prog
  have hcap := ownsRow_cap hM.row
  have hblk := row_block hM.row (k := g) rfl
  refine (P_append hP h.inv (by omega) (by omega) x.name hs ⟨g, 0, none⟩ c bs hbl (by omega) hcap.2 (fun j u hj => ?_) (fun _ => PIs.lentOk hP hblk)).mono ?_
  · have hj' : (byteVals (bs ++ marks))[j]? = some u := by
      rw [byteVals_append, List.getElem?_append_left (List.getElem?_eq_some_iff.1 hj).1]
      exact hj
    exact hM.row.cells (g := g) rfl j u hj'
  · rintro e w1 ⟨he, hP1, hK⟩
    exact ⟨he, hM.step hg (fun q hq => Or.inl hq) hP1 hK⟩
theorem app_doc {W V V1 V2 : World} {g c : Nat} (hM : MA w V2 p d r w.heap.size base x (.slice ba bs.length bc) bs g c W.heap.size (newZ a.zone V V1) (k + 1) (a.doAppend x.name bs).2 (a.withZ (newZ (newZ a.zone W V) V V1))) :
    Calls Try.prog 51 #[.pointer (some ⟨r, 0, none⟩), .string x.name, .slice ba bs.length bc] V2 fun e w2 => e = .returned (.int .i64 (a.doAppend x.name bs).1) ∧ MA w w2 p d r w.heap.size base x (.slice ba bs.length bc) bs g c W.heap.size (newZ a.zone V V1) (k + 1) (a.doAppend x.name bs).2 ((a.doAppend x.name bs).2.withZ (newZ (newZ a.zone W V) V V1)) := by
  have := hbw
  have := hab
  have h1 := D_append hM.doc (h.inv.withZ _) (by omega) (by omega) x.name hs _ bs hM.ab hbl
  rw [withZ_append] at h1
  exact h1.mono (fun e w2 ⟨he, hR, hK⟩ => ⟨he, hM.turn hR hK⟩)
theorem app_done {W V V1 V3 w3 : World} {g c : Nat} (hW : base ≤ W.heap.size) (hg0 : W.heap.size ≤ g) (hg1 : g < V.heap.size) (hz : ∀ q, a.zone q → q < W.heap.size) (hM : MA w V3 p d r w.heap.size base x (.slice ba bs.length bc) bs g c W.heap.size (newZ a.zone V V1) (k + 1) (a.doAppend x.name bs).2 ((a.doAppend x.name bs).2.withZ (newZ (newZ a.zone W V) V V1))) (hk3 : Kept (fun i => i = g) V3 w3) : Done w w3 p d r base k (a.doAppend x.name bs).2 := by
  have := hk
  have := hbw
  have := hs
  have := hab
  obtain ⟨h1, h2⟩ := hM.done hk3 (fun e => by
    rcases e with e | e
    · have := hz g e; omega
    · omega) (Or.inl (Or.inr ⟨hg0, hg1⟩)) hW (fun q hq => by
    rcases hq with hq | hq
    · exact Or.inl (Or.inl hq)
    · exact Or.inr hq) ⟨_, rfl⟩ (h.inv.doAppend x.name bs hbl)
  exact ⟨_, h1, h2⟩
end

end Go.Proofs.Ytipakfdebccchaa
