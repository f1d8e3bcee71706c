/- Texts that belong together. -/
import Derived.Test.YtmbkcmfcdjccoaaDoorMP55
import Derived.Test.YtmbkcmfcdjccoaaDoorRows
import Derived.Deep.Slices
import Derived.Deep.Strs
import Derived.ProofKit
import Derived.Lib.LaidU8T
import Derived.Lib.LaidIn
import Derived.MakeChecks
import Derived.SizedLaws
import Derived.OpenShut
import Derived.LaidLaws
import Derived.ChangeSlices
/- What comes in at the laws of quoting, of alternatives and of repeats: texts; utf8's tables. -/
namespace Go.Proofs.YtmbkcmfcdjccoaaDoor
open Go.ChangeShapes Go.WideShapes Go.ChangeAt Go.RowKit
open Go.Deep (open_slice choose_lt)

theorem own : ownKnob Tryd.prog.godebug = none := by kernel_rfl
theorem laidOut : laidOutB Tryd.prog = true := by kernel_rfl
theorem cells9 : Tryd.prog.cellsOf 9 = 1 := by kernel_rfl
theorem cellsTs : Tryd.prog.cellsOf 22 = 1 := by kernel_rfl
/-- What the row's list gives: utf8's tables. -/
theorem env_of {W : World} (h : laidMetH Tryd.prog Rows.regexQuoteRow.laid W) : Env8 W W.heap.size := by
  rw [MakeChecks.laidMetH_plain _ _ _ (by kernel_rfl)] at h
  have e1 : Rows.laid_unicode_utf8_first = Lib.firstData := by kernel_rfl
  have e2 : (Rows.laid_unicode_utf8_acceptRanges : DataW Unit) = Lib.acceptData := by kernel_rfl
  have h3 := Lib.laidMet.reads h (n := "unicode/utf8.first") (d := Rows.laid_unicode_utf8_first) (.tail _ (.head _))
  have h4 := Lib.laidMet.reads h (n := "unicode/utf8.acceptRanges") (d := Rows.laid_unicode_utf8_acceptRanges) (.head _)
  rw [e1] at h3
  rw [e2] at h4
  have ht := utf8Tabs_of_readsT (ρ := Tryd.decode_ren) { Tryd.decode with } ⟨by kernel_rfl, by kernel_rfl, by kernel_rfl, by kernel_rfl, by kernel_rfl, by kernel_rfl, by kernel_rfl⟩ h3 h4
  have g3 : Tryd.decode_ren.g 3 < W.heap.size := World.block_lt_of_cell? W _ (ht.1 0 (by decide))
  have g4 : Tryd.decode_ren.g 4 < W.heap.size := World.block_lt_of_cell? W _ (ht.2 0 (by decide)).1
  intro V hV
  have hc : ∀ (b j : Nat), b < W.heap.size → V.cell? ⟨b, j, none⟩ = W.cell? ⟨b, j, none⟩ := fun b j hb => by
    unfold World.cell?
    simp only [hV b hb]
  refine ⟨fun c hc' => ?_, fun i hi => ⟨?_, ?_⟩⟩
  · rw [hc _ _ g3]; exact ht.1 c hc'
  · rw [hc _ _ g4]; exact (ht.2 i hi).1
  · rw [hc _ _ g4]; exact (ht.2 i hi).2
def putC (cs : Array Value) : Obj → Obj
  | .cells _ t frozen => .cells cs t frozen
  | o => o
/-- A world that holds the two tables. -/
def laidW (w0 : World) : World := { w0 with heap := (w0.heap.modify 0 (putC (Lib.firstTab.map fun z => Value.int .u8 z).toArray)).modify 1 (putC ((List.range 16).flatMap fun i => [Value.int .u8 (Lib.accLo i), Value.int .u8 (Lib.accHi i)]).toArray) }

section
variable {H : Type} {enc : TypeId × Value → H} {w : World}
/-- A slice of texts. -/
theorem texts_came {a : Option Addr} {len cap : Nat} {d : DataW H} {p : List MemPlace} (h : DataW.Trod enc Tryd.prog w 0 (fun _ => true) true 22 (.slice a len cap) d p) :
    ∃ ss : List ByteArray, ss.length = len ∧ TextsAt w (.slice a len cap) ss := by
  obtain ⟨fuel, hf⟩ := h
  rcases open_strings Tryd.underlying22 Tryd.underlying9 cells9 hf with ⟨hcs, hx⟩ | ⟨x, len', cap', ss, hcs, _, hl, hm, hz, hx, hcell, hws⟩
  · simp [Value.cells] at hcs
    obtain ⟨rfl, rfl, rfl⟩ := hcs
    exact ⟨[], rfl, none, 0, rfl, ⟨Nat.zero_le _, Nat.zero_le _⟩, fun k hk => absurd hk (Nat.not_lt_zero _)⟩
  · simp [Value.cells] at hcs
    obtain ⟨rfl, rfl, rfl⟩ := hcs
    simp only [if_true] at hz
    have hlen : (ss.take len).length = len := by simp; omega
    refine ⟨ss.take len, hlen, some x, cap, by rw [hlen], ⟨by omega, by omega⟩, fun k hk => ?_⟩
    have hk' : k < len := by omega
    obtain ⟨b, off, spot⟩ := x
    have hspot : spot = none := by simpa [Addr.add] using World.cell?_spot (hcell 0 (by omega))
    subst hspot
    have hkc := hcell k (by omega)
    rw [add_plain] at hkc
    have e : ss.getD k ByteArray.empty = (ss.take len)[k] := by simp [List.getD, show k < ss.length by omega]
    rw [e] at hkc
    exact ⟨b, off, rfl, World.block_lt_of_cell? w _ hkc, hkc, hws _ (by simp)⟩
end
end Go.Proofs.YtmbkcmfcdjccoaaDoor

/- What comes in at the law of repeats: a struct of a text, two numbers and texts. -/
namespace Go.Proofs.YtmbkcmfcdjccoaaDoor
open Go.ChangeShapes Go.WideShapes Go.ChangeAt Go.RowKit
open Go.Deep (open_slice choose_lt)

theorem cellsInt : Tryd.prog.cellsOf 3 = 1 := by kernel_rfl
theorem cellsTs2 : Tryd.prog.cellsOf 22 = 1 := by kernel_rfl
section
variable {H : Type} {enc : TypeId × Value → H} {w : World}
theorem i64_wf {n : Int} (h : (Lit.int .i64 n).wf = true) : -9223372036854775808 ≤ n ∧ n ≤ 9223372036854775807 := by
  have e1 : IntKind.i64.min = -9223372036854775808 := by decide
  have e2 : IntKind.i64.max = 9223372036854775807 := by decide
  simp [Lit.wf, e1, e2] at h
  exact h
set_option maxRecDepth 100000 in
theorem repeats_came {cs : Array Value} {d : DataW H} {p : List MemPlace} (hl : cs.size = 4) (h : DataW.Trod enc Tryd.prog w 0 (fun _ => true) true 35 (.agg cs) d p) :
    ∃ (la : Option Addr) (lc : Nat) (s : ByteArray) (n m : Int) (ss : List ByteArray), cs = #[.string s, .int .i64 n, .int .i64 m, .slice la ss.length lc] ∧ TextsAt w (.slice la ss.length lc) ss ∧ (-9223372036854775808 ≤ n ∧ n ≤ 9223372036854775807) ∧ (-9223372036854775808 ≤ m ∧ m ≤ 9223372036854775807) ∧ s.size ≤ maxLen := by
  obtain ⟨fuel, hf⟩ := h
  obtain ⟨cl⟩ := cs
  obtain ⟨xs, m, _, _, _, hxl, hf⟩ := DataW.trod_struct Tryd.underlying35 hf
  match cl, hl with
  | [v0, v1, v2, v3], _ =>
    match xs, hxl with
    | [y0, y1, y2, y3], _ =>
      have t0 := hf 0 _ rfl
      have t1 := hf 1 _ rfl
      have t2 := hf 2 _ rfl
      have t3 := hf 3 _ rfl
      simp [cells9, cellsInt, cellsTs2, Value.cells] at t0 t1 t2 t3
      obtain ⟨z0, e0, _, w0⟩ := DataW.trod_string Tryd.underlying9 t0
      obtain ⟨z1, e1, _, w1⟩ := DataW.trod_int Tryd.underlying3 t1
      obtain ⟨z2, e2, _, w2⟩ := DataW.trod_int Tryd.underlying3 t2
      simp at e0 e1 e2
      subst e0 e1 e2
      have hs3 : ∃ a n c, v3 = .slice a n c := by
        rcases Deep.open_slice Tryd.underlying22 t3 with ⟨hcs, _⟩ | ⟨x, l, c, m, n, D, Pl, hcs, _, _⟩
        · simp at hcs; exact ⟨_, _, _, hcs⟩
        · simp at hcs; exact ⟨_, _, _, hcs⟩
      obtain ⟨a3, n3, c3, rfl⟩ := hs3
      obtain ⟨ss, l2, h2⟩ := texts_came (d := y3.1) (p := y3.2) ⟨_, t3⟩
      subst l2
      exact ⟨a3, c3, z0, z1, z2, ss, rfl, h2, i64_wf w1, i64_wf w2, by
        have h9 : z0.data.toList.length ≤ maxLen := by simpa [Lit.wf] using w0
        simpa using h9⟩
end
end Go.Proofs.YtmbkcmfcdjccoaaDoor
