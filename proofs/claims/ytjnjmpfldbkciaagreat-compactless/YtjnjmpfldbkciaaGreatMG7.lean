/- CompactLess, walked. -/
import Derived.Test.YtjnjmpfldbkciaaGreatMG6
import Derived.Test.YtjnjmpfldbkciaaGreatMD2
import Derived.Test.YtjnjmpfldbkciaaGreatC6
import Derived.Test.YtjnjmpfldbkciaaGreatMYv
namespace Go.Proofs.YtjnjmpfldbkciaaGreat
open Go.RowKit Go.Maps Go.Sort

/-- The fewest pieces of what g holds. -/
def UFo (out g : List Gn) : Prop := Canon (out.map Gn.p) ∧ (∀ L t, Cov (out.map Gn.p) L t ↔ Cov (g.map Gn.p) L t) ∧ out.length ≤ 12
theorem ufo_of {out g : List Gn} {s : List PG} (hg : g.length ≤ 12) (hs : s.Pairwise LeG) (hp : s.Perm ((g.map Gn.p).filter fineB)) (hu : out.map Gn.p = uF s) : UFo out g := by
  obtain ⟨h1, h2, h3⟩ := union_facts hs hp
  rw [← hu] at h1 h2 h3
  exact ⟨h1, h2, by simp at h3; omega⟩
theorem ufo_same {a b g : List Gn} (ha : UFo a g) (hb : UFo b g) : a.map Gn.p = b.map Gn.p := canon_unique _ _ ha.1 hb.1 (fun L t => (ha.2.1 L t).trans (hb.2.1 L t).symm)
theorem less_at {v u : Value} {l : List Sr} {g : List Gn} {W : World} (h : SrAt W v l) (hg : GnAt W u g) (hl : l.length ≤ 12) (hgl : g.length ≤ 12) :
    Calls Tryz.prog 9 #[v, u] W fun e W' => ∃ r, e = .returned r ∧ ∃ out, (SrAt W' r out ∧ out.map Sr.p = lessF (l.map Sr.p) (g.map Gn.p)) ∧ Below W.heap.size W W' :=
  (less_any v u l g W h hg hl hgl).mono fun _e _W' ⟨r, he, out, h1, h2⟩ => ⟨r, he, out, ⟨h1.at, h2⟩, h1.bel⟩
theorem refLess_at {v u : Value} {l : List Sr} {g : List Gn} {W : World} (h : SrAt W v l) (hg : GnAt W u g) (hl : l.length ≤ 12) (hgl : g.length ≤ 12) :
    Calls Tryz.prog 6 #[v, u] W fun e W' => ∃ r, e = .returned r ∧ ∃ out, (SrAt W' r out ∧ out.map Sr.p = lessF (l.map Sr.p) (g.map Gn.p)) ∧ Below W.heap.size W W' :=
  (refLess_any v u l g W h hg hl hgl).mono fun _e _W' ⟨r, he, out, h1, h2⟩ => ⟨r, he, out, ⟨h1.at, h2⟩, h1.bel⟩
theorem union_at {u : Value} {g : List Gn} {W : World} (hg : GnAt W u g) (hgl : g.length ≤ 12) :
    Calls Tryz.prog 7 #[u] W fun e W' => ∃ r, e = .returned r ∧ ∃ out, (GnAt W' r out ∧ UFo out g) ∧ Below W.heap.size W W' :=
  (union_any u g W hg hgl).mono fun _e _W' ⟨r, he, out, _s, h1, h2, h3, h4⟩ => ⟨r, he, out, ⟨h1.at, ufo_of hgl h2 h3 h4⟩, h1.bel⟩
theorem refUnion_at {u : Value} {g : List Gn} {W : World} (hg : GnAt W u g) (hgl : g.length ≤ 12) :
    Calls Tryz.prog 11 #[u] W fun e W' => ∃ r, e = .returned r ∧ ∃ out, (GnAt W' r out ∧ UFo out g) ∧ Below W.heap.size W W' :=
  (refUnion_any u g W hg hgl).mono fun _e _W' ⟨r, he, out, _s, h1, h2, h3, h4⟩ => ⟨r, he, out, ⟨h1.at, ufo_of hgl h2 h3 h4⟩, h1.bel⟩
theorem lessF_len12 {l : List Sr} {g : List PG} {out : List Sr} (hl : l.length ≤ 12) (h : out.map Sr.p = lessF (l.map Sr.p) g) : out.length ≤ 1000 := by
  have h1 := lessF_len (l.map Sr.p) g
  rw [← h] at h1
  simp at h1
  omega
theorem GCame.below {w w' : World} {g : Gn} (h : GCame w g) (hb : Below w.heap.size w w') : GCame w' g := ⟨h.lab.below hb, h.sz, h.lo1, h.lo2, h.hi1, h.hi2⟩
/-- All that lies there. -/
structure CL (w W : World) (lv gv wv uv : Value) (L : List Sr) (G : List Gn) (T : List Sr) (U : List Gn) : Prop where
  lst : SrAt W lv L
  gon : GnAt W gv G
  want : SrAt W wv T
  uni : GnAt W uv U
  bel : Below w.heap.size w W
theorem CL.below {w W W' : World} {lv gv wv uv : Value} {L : List Sr} {G : List Gn} {T : List Sr} {U : List Gn} (h : CL w W lv gv wv uv L G T U) (hb : Below W.heap.size W W') : CL w W' lv gv wv uv L G T U :=
  ⟨h.lst.below hb, h.gon.below hb, h.want.below hb, h.uni.below hb, h.bel.trans (hb.mono h.bel.size)⟩

set_option maxRecDepth 100000 in
set_option maxHeartbeats 4000000 in
theorem lessLaw (v u : Value) (l : List Sr) (g : List Gn) (w : World) (h : RowAt w v 2 l.length (srC l)) (hs : ∀ s ∈ l, SCame w s) (hr : RowAt w u 3 g.length (gnC g)) (hg : ∀ x ∈ g, GCame w x) :
    Calls Tryz.prog 3 #[v, u] w fun e w' => e = .returned (.bool true) ∧ Below w.heap.size w w' := by
  have hcut := cut_any v l w h hs
  obtain ⟨a0, c0, rfl, -⟩ := id h
  obtain ⟨a1, c1, rfl, -⟩ := id hr
  have HPI : Hid (∀ w1, Below w.heap.size w w1 → Calls Tryz.prog 5 #[.slice a1 g.length c1] w1 fun e w' => ∃ u, e = .returned u ∧ ∃ out, GRow w1 w' u out ∧ out.length ≤ 12) := fun w1 hb => pieces_any _ g w1 (RowAt.below hr hb) (fun x hx => (hg x hx).below hb)
  clear h hs hr hg
  go_enter Tryz.func3, Tryz.ntmps3
  go_upto_region 4 with (first
    | (go_at_call 4; refine hcut.mono ?_; clear hcut; rintro e w1 ⟨v1, rfl, L, hS1, hL12⟩; have HL1 := hS1.at; have HB1 : Hid (Below w.heap.size w w1) := hS1.bel; obtain ⟨la, lc, rfl, -⟩ := id HL1.1; have HL1' : Hid (SrAt w1 (.slice la L.length lc) L) := HL1; clear hS1 HL1)
    | (go_at_call 5; refine (HPI.out w1 HB1.out).mono ?_; clear HPI; rintro e w2 ⟨v2, rfl, G, hG2, hG12⟩; have HG2 := hG2.at; obtain ⟨ga, gc, rfl, -⟩ := id HG2.1; have HG2' : Hid (GnAt w2 (.slice ga G.length gc) G) := HG2; have HL2 : Hid (SrAt w2 (.slice la L.length lc) L) := HL1'.out.below hG2.bel; have HB2 : Hid (Below w.heap.size w w2) := HB1.out.trans (hG2.bel.mono HB1.out.size); clear hG2 HG2 HB1 HL1')
    | (go_at_call 6; refine (refLess_at HL2.out HG2'.out hL12 hG12).mono ?_; rintro e w3 ⟨v3, rfl, T, ⟨hT3, hTe⟩, hb3⟩; obtain ⟨ta, tc, rfl, -⟩ := id hT3.1; have HT3 : Hid (SrAt w3 (.slice ta T.length tc) T) := hT3; have HTE : Hid (T.map Sr.p = lessF (L.map Sr.p) (G.map Gn.p)) := hTe; have HL3 : Hid (SrAt w3 (.slice la L.length lc) L) := HL2.out.below hb3; have HG3 : Hid (GnAt w3 (.slice ga G.length gc) G) := HG2'.out.below hb3; have HB3 : Hid (Below w.heap.size w w3) := HB2.out.trans (hb3.mono HB2.out.size); clear hT3 hTe hb3 HL2 HG2' HB2)
    | (go_at_call 7; refine (union_at HG3.out hG12).mono ?_; rintro e w4 ⟨v4, rfl, U, ⟨hU4, hUo⟩, hb4⟩; obtain ⟨ua, uc, rfl, -⟩ := id hU4.1; have HUO : Hid (UFo U G) := hUo; have HCL : Hid (CL w w4 (.slice la L.length lc) (.slice ga G.length gc) (.slice ta T.length tc) (.slice ua U.length uc) L G T U) := ⟨HL3.out.below hb4, HG3.out.below hb4, HT3.out.below hb4, hU4, HB3.out.trans (hb4.mono HB3.out.size)⟩; clear hU4 hUo hb4 HL3 HG3 HT3 HB3))
  have HP1 : Hid (∀ out : List Sr, out.map Sr.p = lessF (L.map Sr.p) (G.map Gn.p) → out.map Sr.p = T.map Sr.p ∧ out.length ≤ 1000) := fun out ho => ⟨ho.trans HTE.out.symm, lessF_len12 hL12 ho⟩
  have HP2 : Hid (∀ out : List Sr, out.map Sr.p = lessF (L.map Sr.p) (U.map Gn.p) → out.map Sr.p = T.map Sr.p ∧ out.length ≤ 1000) := fun out ho => ⟨by rw [ho, HTE.out]; exact lessF_same HUO.out.2.1, lessF_len12 hL12 ho⟩
  have HP3 : Hid (∀ out, UFo out G → U.map Gn.p = out.map Gn.p ∧ U.length ≤ 1000) := fun out ho => ⟨ufo_same HUO.out ho, by have := HUO.out.2.2; omega⟩
  have HU12 : Hid (U.length ≤ 12) := HUO.out.2.2
  clear HTE HUO
  have hL1 := less_at HCL.out.lst HCL.out.gon hL12 hG12
  have HC4 := HCL
  clear HCL
  go_wp2_with (first
    | (go_at_call 9; refine hL1.mono ?_; clear hL1; rintro e w5 ⟨v5, rfl, R5, ⟨hR5, hR5e⟩, hb5⟩; obtain ⟨ra, rc, rfl, -⟩ := id hR5.1; have HC5 : Hid (CL w w5 (.slice la L.length lc) (.slice ga G.length gc) (.slice ta T.length tc) (.slice ua U.length uc) L G T U) := HC4.out.below hb5; have hS5 := series_same _ _ R5 T w5 hR5 HC5.out.want (HP1.out R5 hR5e).1 (HP1.out R5 hR5e).2; clear hR5 hR5e hb5 HC4 HP1)
    | (go_at_call 8; refine hS5.mono ?_; clear hS5; rintro e w6 ⟨rfl, hb6⟩; have HC6 : Hid (CL w w6 (.slice la L.length lc) (.slice ga G.length gc) (.slice ta T.length tc) (.slice ua U.length uc) L G T U) := HC5.out.below hb6; have hU6 := refUnion_at HC6.out.gon hG12; clear hb6 HC5)
    | (go_at_call 11; refine hU6.mono ?_; clear hU6; rintro e w7 ⟨v7, rfl, U7, ⟨hU7, hU7o⟩, hb7⟩; obtain ⟨u7a, u7c, rfl, -⟩ := id hU7.1; have HC7 : Hid (CL w w7 (.slice la L.length lc) (.slice ga G.length gc) (.slice ta T.length tc) (.slice ua U.length uc) L G T U) := HC6.out.below hb7; have hG7 := gones_same _ _ U U7 w7 HC7.out.uni hU7 (HP3.out U7 hU7o).1 (HP3.out U7 hU7o).2; clear hU7 hU7o hb7 HC6 HP3)
    | (go_at_call 10; refine hG7.mono ?_; clear hG7; rintro e w8 ⟨rfl, hb8⟩; have HC8 : Hid (CL w w8 (.slice la L.length lc) (.slice ga G.length gc) (.slice ta T.length tc) (.slice ua U.length uc) L G T U) := HC7.out.below hb8; have hL8 := less_at HC8.out.lst HC8.out.uni hL12 HU12.out; clear hb8 HC7)
    | (go_at_call 9; refine hL8.mono ?_; clear hL8; rintro e w9 ⟨v9, rfl, R9, ⟨hR9, hR9e⟩, hb9⟩; obtain ⟨r9a, r9c, rfl, -⟩ := id hR9.1; have HC9 : Hid (CL w w9 (.slice la L.length lc) (.slice ga G.length gc) (.slice ta T.length tc) (.slice ua U.length uc) L G T U) := HC8.out.below hb9; have hS9 := series_same _ _ R9 T w9 hR9 HC9.out.want (HP2.out R9 hR9e).1 (HP2.out R9 hR9e).2; clear hR9 hR9e hb9 HC8 HP2)
    | (go_at_call 8; refine hS9.mono ?_; clear hS9; rintro e wa ⟨rfl, hba⟩; have HCa : Hid (CL w wa (.slice la L.length lc) (.slice ga G.length gc) (.slice ta T.length tc) (.slice ua U.length uc) L G T U) := HC9.out.below hba; have hSa := span_any _ L wa HCa.out.lst (by omega); clear hba HC9)
    | (go_at_call 12; refine hSa.mono ?_; clear hSa; rintro e wb ⟨rfl, hbb⟩; have HCb : Hid (CL w wb (.slice la L.length lc) (.slice ga G.length gc) (.slice ta T.length tc) (.slice ua U.length uc) L G T U) := HCa.out.below hbb; have hSb := refSpan_any _ L wb HCb.out.lst (by omega); clear hbb HCa)
    | (go_at_call 13; refine hSb.mono ?_; clear hSb; rintro e wc ⟨rfl, hbc⟩; have HCc : Hid (CL w wc (.slice la L.length lc) (.slice ga G.length gc) (.slice ta T.length tc) (.slice ua U.length uc) L G T U) := HCb.out.below hbc; clear hbc HCb)
    | (go_at_call 14; refine (wakes_any _).mono ?_; rintro e wd ⟨rfl, hbd⟩; have hend := HCc.out.bel.trans (hbd.mono HCc.out.bel.size)))
  go_ret
  exact ⟨rfl, hend⟩

end Go.Proofs.YtjnjmpfldbkciaaGreat
