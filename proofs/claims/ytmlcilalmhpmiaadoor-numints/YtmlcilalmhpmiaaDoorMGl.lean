/- Texts that belong together. -/
import Derived.Test.YtmlcilalmhpmiaaDoorMGk
import Derived.Test.YtmlcilalmhpmiaaDoorMEl
import Derived.Stop.LaidErr
import Derived.LaidLaws
/- NumInts. -/
namespace Go.Proofs.YtmlcilalmhpmiaaDoor
open Go.RowKit Go.Maps

open Classical in
/-- What a text says as a whole number, and the error. -/
noncomputable def intR (a : ByteArray) : Int × Int := if h : ∃ v, inI v ∧ a = ⟨(Lib.itoa v).toArray⟩ then (h.choose, 0) else (0, 8)
theorem itoa_inj {u v : Int} (hu : inI u) (hv : inI v) (h : (⟨(Lib.itoa u).toArray⟩ : ByteArray) = ⟨(Lib.itoa v).toArray⟩) : u = v := by
  have h1 := atoi_itoa u hu.1 hu.2
  have h2 := atoi_itoa v hv.1 hv.2
  have h3 : Lib.itoa u = Lib.itoa v := by
    have := congrArg (fun x : ByteArray => x.data.toList) h
    simpa using this
  rw [h3, h2] at h1
  injection h1 with h1
  exact h1.symm
theorem intR_yes {v : Int} (hv : inI v) : intR ⟨(Lib.itoa v).toArray⟩ = (v, 0) := by
  have h : ∃ u, inI u ∧ (⟨(Lib.itoa v).toArray⟩ : ByteArray) = ⟨(Lib.itoa u).toArray⟩ := ⟨v, hv, rfl⟩
  unfold intR
  rw [dif_pos h, itoa_inj h.choose_spec.1 hv h.choose_spec.2.symm]
theorem intR_no {a : ByteArray} (h : ∀ v, inI v → a ≠ ⟨(Lib.itoa v).toArray⟩) : intR a = (0, 8) := by
  unfold intR
  rw [dif_neg]
  rintro ⟨v, hv, e⟩
  exact h v hv e
theorem int_any (a : ByteArray) (w : World) (hs : a.size ≤ 140737488351232) (hP : Pow w) (hE : Errs w) : Calls Tryd.prog 22 #[.string a] w fun e w' => e = .returned (.tuple #[.int .i64 (intR a).1, .int .i64 (intR a).2]) ∧ Below w.heap.size w w' := by
  by_cases h : ∃ v, inI v ∧ a = ⟨(Lib.itoa v).toArray⟩
  · obtain ⟨v, hv, e⟩ := h
    have h1 := int_ok a v w hs hv e hP
    rw [show intR a = (v, 0) by rw [e]; exact intR_yes hv]
    exact h1
  · have h2 : ∀ v, inI v → a ≠ ⟨(Lib.itoa v).toArray⟩ := fun v hv e => h ⟨v, hv, e⟩
    rw [intR_no h2]
    exact int_no a w hs h2 hP hE
theorem refInt_any (a : ByteArray) (w : World) (hs : a.size ≤ 140737488351232) : Calls Tryd.prog 23 #[.string a] w fun e w' => e = .returned (.tuple #[.int .i64 (intR a).1, .int .i64 (intR a).2]) ∧ Below w.heap.size w w' := by
  have hy : ∀ v, inI v → a = ⟨(Lib.itoa v).toArray⟩ → (intR a).1 = v ∧ (intR a).2 = 0 := fun v hv e => by
    rw [e, intR_yes hv]
    exact ⟨rfl, rfl⟩
  have hn : (∀ v, inI v → a ≠ ⟨(Lib.itoa v).toArray⟩) → (intR a).1 = 0 ∧ (intR a).2 = 8 := fun h => by
    rw [intR_no h]
    exact ⟨rfl, rfl⟩
  by_cases hc : ∃ r, a.data.toList = 45 :: r
  · obtain ⟨r, hr⟩ := hc
    exact refInt_minus a ⟨r.toArray⟩ _ _ w hs (Or.inl ⟨rfl, hr⟩) hy hn
  · exact refInt_plain a _ _ w hs (Or.inr ⟨rfl, rfl, fun r e => hc ⟨r, e⟩⟩) hy hn

set_option maxRecDepth 100000 in
set_option maxHeartbeats 1000000 in
theorem ints_core (n : Int) (s : ByteArray) (w : World) (hn : inI n) (hs : s.size ≤ 140737488351232) (hU : Units w) (hP : Pow w) (hE : Errs w) :
    Calls Tryd.prog 6 #[.int .i64 n, .string s] w fun e w' => e = .returned (.bool true) ∧ Below w.heap.size w w' := by
  obtain ⟨tx, htx⟩ : ∃ tx : Int → ByteArray, tx = fun m => ⟨(Lib.itoa m).toArray⟩ := ⟨_, rfl⟩
  obtain ⟨iv, hiv⟩ : ∃ iv : ByteArray → Int, iv = fun a => (intR a).1 := ⟨_, rfl⟩
  obtain ⟨ie, hie⟩ : ∃ ie : ByteArray → Int, ie = fun a => (intR a).2 := ⟨_, rfl⟩
  have HT : Hid (∀ m, inI m → ∀ W : World, Below w.heap.size w W → Calls Tryd.prog 21 #[.int .i64 m] W fun e w' => e = .returned (.string (tx m)) ∧ Below W.heap.size W w') := fun m hm W hb => by
    rw [htx]
    exact intText_any m W hm.1 hm.2 (hP.below hb)
  have HRT : Hid (∀ m, inI m → ∀ W : World, Calls Tryd.prog 24 #[.int .i64 m] W fun e w' => e = .returned (.string (tx m)) ∧ Below W.heap.size W w') := fun m hm W => by
    rw [htx]
    exact refIntText_any m W hm.1 hm.2
  have HI : Hid (∀ a : ByteArray, a.size ≤ 140737488351232 → ∀ W : World, Below w.heap.size w W → Calls Tryd.prog 22 #[.string a] W fun e w' => e = .returned (.tuple #[.int .i64 (iv a), .int .i64 (ie a)]) ∧ Below W.heap.size W w') := fun a ha W hb => by
    rw [hiv, hie]
    exact int_any a W ha (hP.below hb) (hE.below hb)
  have HRI : Hid (∀ a : ByteArray, a.size ≤ 140737488351232 → ∀ W : World, Calls Tryd.prog 23 #[.string a] W fun e w' => e = .returned (.tuple #[.int .i64 (iv a), .int .i64 (ie a)]) ∧ Below W.heap.size W w') := fun a ha W => by
    rw [hiv, hie]
    exact refInt_any a W ha
  have HWK : Hid (∀ W : World, Below w.heap.size w W → Calls Tryd.prog 13 #[] W fun e w' => e = .returned (.bool true) ∧ Below W.heap.size W w') := fun W hb => wakes_any W (hU.below hb)
  have hsn : (tx n).size ≤ 140737488351232 := by
    have h9 : (Lib.itoa n).length ≤ 21 := Lib.itoa_length_le n hn.1 hn.2
    rw [htx]
    simp [ByteArray.size]
    omega
  have hv1 : iv (tx n) = n := by rw [hiv, htx]; show (intR _).1 = n; rw [intR_yes hn]
  have he1 : ie (tx n) = 0 := by rw [hie, htx]; show (intR _).2 = 0; rw [intR_yes hn]
  have HBL : Hid (Below w.heap.size w w) := Below.refl _ _
  have HN : Hid (inI n) := hn
  have hcase : (∃ v, s = tx v ∧ iv (tx v) = v ∧ ie (tx v) = 0 ∧ Hid (inI v)) ∨ (iv s = 0 ∧ ie s = 8) := by
    by_cases h : ∃ v, inI v ∧ s = ⟨(Lib.itoa v).toArray⟩
    · obtain ⟨v, hv, e⟩ := h
      left
      rw [hie, hiv, htx]
      refine ⟨v, e, ?_, ?_, hv⟩
      · show (intR _).1 = v
        rw [intR_yes hv]
      · show (intR _).2 = 0
        rw [intR_yes hv]
    · right
      rw [hie, hiv]
      show (intR s).1 = 0 ∧ (intR s).2 = 8
      rw [intR_no (fun v hv e => h ⟨v, hv, e⟩)]
      exact ⟨rfl, rfl⟩
  clear htx hiv hie hU hP hE hn
  rcases hcase with ⟨v, rfl, hvs, hes, HVS⟩ | ⟨hvs, hes⟩
  · go_enter Tryd.func6, Tryd.ntmps6
    go_wp2_with (first
      | (go_at_call 21; refine (HT.out _ (by first | exact HN.out | exact HVS.out) _ HBL.out).mono ?_; rintro e w1 ⟨rfl, hb1⟩; have HB1 : Hid (Below w.heap.size w w1) := HBL.out.trans (hb1.mono HBL.out.size); clear hb1 HBL; have HBL : Hid (Below w.heap.size w w1) := HB1.out; clear HB1)
      | (go_at_call 22; refine (HI.out _ (by first | exact hsn | exact hs) _ HBL.out).mono ?_; rintro e w1 ⟨rfl, hb1⟩; have HB1 : Hid (Below w.heap.size w w1) := HBL.out.trans (hb1.mono HBL.out.size); clear hb1 HBL; have HBL : Hid (Below w.heap.size w w1) := HB1.out; clear HB1)
      | (go_at_call 23; refine (HRI.out _ hs _).mono ?_; rintro e w1 ⟨rfl, hb1⟩; have HB1 : Hid (Below w.heap.size w w1) := HBL.out.trans (hb1.mono HBL.out.size); clear hb1 HBL; have HBL : Hid (Below w.heap.size w w1) := HB1.out; clear HB1)
      | (go_at_call 24; refine (HRT.out _ HN.out _).mono ?_; rintro e w1 ⟨rfl, hb1⟩; have HB1 : Hid (Below w.heap.size w w1) := HBL.out.trans (hb1.mono HBL.out.size); clear hb1 HBL; have HBL : Hid (Below w.heap.size w w1) := HB1.out; clear HB1)
      | (go_at_call 13; refine (HWK.out _ HBL.out).mono ?_; rintro e w1 ⟨rfl, hb1⟩; have HB1 : Hid (Below w.heap.size w w1) := HBL.out.trans (hb1.mono HBL.out.size); clear hb1 HBL; have HBL : Hid (Below w.heap.size w w1) := HB1.out; clear HB1))
    go_ret
    exact ⟨rfl, HBL.out⟩
  · go_enter Tryd.func6, Tryd.ntmps6
    go_wp2_with (first
      | (go_at_call 21; refine (HT.out _ HN.out _ HBL.out).mono ?_; rintro e w1 ⟨rfl, hb1⟩; have HB1 : Hid (Below w.heap.size w w1) := HBL.out.trans (hb1.mono HBL.out.size); clear hb1 HBL; have HBL : Hid (Below w.heap.size w w1) := HB1.out; clear HB1)
      | (go_at_call 22; refine (HI.out _ (by first | exact hsn | exact hs) _ HBL.out).mono ?_; rintro e w1 ⟨rfl, hb1⟩; have HB1 : Hid (Below w.heap.size w w1) := HBL.out.trans (hb1.mono HBL.out.size); clear hb1 HBL; have HBL : Hid (Below w.heap.size w w1) := HB1.out; clear HB1)
      | (go_at_call 23; refine (HRI.out _ hs _).mono ?_; rintro e w1 ⟨rfl, hb1⟩; have HB1 : Hid (Below w.heap.size w w1) := HBL.out.trans (hb1.mono HBL.out.size); clear hb1 HBL; have HBL : Hid (Below w.heap.size w w1) := HB1.out; clear HB1)
      | (go_at_call 24; refine (HRT.out _ HN.out _).mono ?_; rintro e w1 ⟨rfl, hb1⟩; have HB1 : Hid (Below w.heap.size w w1) := HBL.out.trans (hb1.mono HBL.out.size); clear hb1 HBL; have HBL : Hid (Below w.heap.size w w1) := HB1.out; clear HB1)
      | (go_at_call 13; refine (HWK.out _ HBL.out).mono ?_; rintro e w1 ⟨rfl, hb1⟩; have HB1 : Hid (Below w.heap.size w w1) := HBL.out.trans (hb1.mono HBL.out.size); clear hb1 HBL; have HBL : Hid (Below w.heap.size w w1) := HB1.out; clear HB1))
    go_ret
    exact ⟨rfl, HBL.out⟩
theorem ints_w (n : Int) (s : ByteArray) (W : World) (hn : -9223372036854775808 ≤ n ∧ n ≤ 9223372036854775807) (hs : s.size ≤ 140737488351232) (h : Units W ∧ Pow W ∧ Errs W) :
    Calls Tryd.prog 6 #[.int .i64 n, .string s] W fun e w' => e = .returned (.bool true) ∧ Below W.heap.size W w' := ints_core n s W hn (by omega) h.1 h.2.1 h.2.2
end Go.Proofs.YtmlcilalmhpmiaaDoor

/- What comes in at NumInts: the units, the table of the powers of ten, the library's two errors; the size of a text. -/
namespace Go.Proofs.YtmlcilalmhpmiaaDoor
open Go.ChangeShapes Go.WideShapes Go.ChangeAt Go.RowKit

theorem starErr : "*" ++ "errors.errorString" = "*errors.errorString" := by decide
theorem rowErr (u : TypeId) (h : Tryd.prog.typeName? 3 u = some "*errors.errorString") : u = 172 :=
  typeName_ptr_named (nm := "errors.errorString") (by rw [starErr]; kernel_rfl) (by kernel_rfl) (by decide) u (by rw [starErr]; exact h)
theorem laid_errs {W : World} (h : laidMetH Tryd.prog Rows.numIntsRow.laid W) : Units W ∧ Pow W ∧ Errs W := by
  rw [MakeChecks.laidMetH_plain _ _ _ (by kernel_rfl)] at h
  refine ⟨laid_units h (.tail _ (.tail _ (.tail _ (.tail _ (.tail _ (.head _)))))), laid_pow h (.tail _ (.tail _ (.head _))), ?_⟩
  have hr := h.tail.tail.tail
  have hs := hr.tail
  obtain ⟨a0, s0, hv0, -⟩ := laid_sentinel (g := 3) hr (by kernel_rfl) (by kernel_rfl) Tryd.underlying85 rowErr Tryd.underlying172 Tryd.underlying174 rfl rfl Tryd.underlying9 (by kernel_rfl) (by kernel_rfl)
  obtain ⟨a1, s1, hv1, -⟩ := laid_sentinel (g := 2) hs (by kernel_rfl) (by kernel_rfl) Tryd.underlying85 rowErr Tryd.underlying172 Tryd.underlying174 rfl rfl Tryd.underlying9 (by kernel_rfl) (by kernel_rfl)
  have c0 : W.cell? ⟨3, 0, none⟩ = some (.iface 172 (.pointer (some a0))) := by
    rw [World.var?_cell (show Tryd.prog.globalNamed "strconv.ErrRange" = some 3 by kernel_rfl) hv0 0]
    rfl
  have c1 : W.cell? ⟨2, 0, none⟩ = some (.iface 172 (.pointer (some a1))) := by
    rw [World.var?_cell (show Tryd.prog.globalNamed "strconv.ErrSyntax" = some 2 by kernel_rfl) hv1 0]
    rfl
  exact ⟨⟨_, _, c1⟩, ⟨_, _, c0⟩, World.block_lt_of_cell? W _ c0, World.block_lt_of_cell? W _ c1⟩
/-- A world that holds what the row of NumInts lists. -/
noncomputable def laidI (os : Os) : World :=
  let N := (World.settled Tryd.prog os).heap.size
  let w0 := laidW (World.holding Tryd.prog os ⟨#[.cells #[.string ⟨#[118, 97, 108, 117, 101, 32, 111, 117, 116, 32, 111, 102, 32, 114, 97, 110, 103, 101]⟩] 174, .cells #[.string ⟨#[105, 110, 118, 97, 108, 105, 100, 32, 115, 121, 110, 116, 97, 120]⟩] 174], #[], []⟩)
  { w0 with heap := (w0.heap.modify 3 (putC #[.iface 172 (.pointer (some ⟨N, 0, none⟩))])).modify 2 (putC #[.iface 172 (.pointer (some ⟨N + 1, 0, none⟩))]) }
theorem str_reach {H : Type} {enc : TypeId × Value → H} {w : World} {s : ByteArray} {d : DataW H} {p : List MemPlace} (h : DataW.Trod enc Tryd.prog w 0 (fun _ => true) true 9 (.string s) d p) : d = .lit (.string s.data.toList) ∧ s.size ≤ maxLen := by
  obtain ⟨fuel, hf⟩ := h
  obtain ⟨t, e, z, hw⟩ := DataW.trod_string Tryd.underlying9 hf
  simp [Value.cells] at e
  subst e
  simp at z
  refine ⟨z.1, ?_⟩
  have h9 : s.data.toList.length ≤ maxLen := by simpa [Lit.wf] using hw
  simpa using h9
end Go.Proofs.YtmlcilalmhpmiaaDoor
