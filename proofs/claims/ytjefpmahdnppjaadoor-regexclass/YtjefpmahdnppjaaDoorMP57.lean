/- What comes in at the law of classes: a struct of characters, a range and texts; utf8's tables. -/
import Derived.Test.YtjefpmahdnppjaaDoorMP56
import Derived.Test.YtjefpmahdnppjaaDoorRows
import Derived.Deep.Slices
import Derived.Deep.Strs
import Derived.ProofKit
import Derived.Lib.LaidU8T
import Derived.Lib.LaidIn
import Derived.MakeChecks
import Derived.SizedLaws
import Derived.OpenShut
import Derived.LaidLaws
import Derived.ChangeSlices
namespace Go.Proofs.YtjefpmahdnppjaaDoor
open Go.ChangeShapes Go.WideShapes Go.ChangeAt Go.RowKit
open Go.Deep (open_slice choose_lt)

theorem own : ownKnob Tryd.prog.godebug = none := by kernel_rfl
theorem laidOut : laidOutB Tryd.prog = true := by kernel_rfl
theorem cells9 : Tryd.prog.cellsOf 9 = 1 := by kernel_rfl
theorem cellsI32 : Tryd.prog.cellsOf 21 = 1 := by kernel_rfl
theorem cellsRs : Tryd.prog.cellsOf 22 = 1 := by kernel_rfl
theorem cellsTs : Tryd.prog.cellsOf 23 = 1 := by kernel_rfl
/-- What the row's list gives: utf8's tables. -/
theorem env_of {W : World} (h : laidMetH Tryd.prog Rows.regexClassRow.laid W) : Env8 W W.heap.size := by
  rw [MakeChecks.laidMetH_plain _ _ _ (by kernel_rfl)] at h
  have e1 : Rows.laid_unicode_utf8_first = Lib.firstData := by kernel_rfl
  have e2 : (Rows.laid_unicode_utf8_acceptRanges : DataW Unit) = Lib.acceptData := by kernel_rfl
  have h3 := Lib.laidMet.reads h (n := "unicode/utf8.first") (d := Rows.laid_unicode_utf8_first) (.tail _ (.head _))
  have h4 := Lib.laidMet.reads h (n := "unicode/utf8.acceptRanges") (d := Rows.laid_unicode_utf8_acceptRanges) (.head _)
  rw [e1] at h3
  rw [e2] at h4
  have ht := utf8Tabs_of_readsT (ρ := Tryd.decode_ren) { Tryd.decode with } ⟨by kernel_rfl, by kernel_rfl, by kernel_rfl, by kernel_rfl, by kernel_rfl, by kernel_rfl, by kernel_rfl⟩ h3 h4
  have g3 : Tryd.decode_ren.g 3 < W.heap.size := World.block_lt_of_cell? W _ (ht.1 0 (by decide))
  have g4 : Tryd.decode_ren.g 4 < W.heap.size := World.block_lt_of_cell? W _ (ht.2 0 (by decide)).1
  intro V hV
  have hc : ∀ (b j : Nat), b < W.heap.size → V.cell? ⟨b, j, none⟩ = W.cell? ⟨b, j, none⟩ := fun b j hb => by
    unfold World.cell?
    simp only [hV b hb]
  refine ⟨fun c hc' => ?_, fun i hi => ⟨?_, ?_⟩⟩
  · rw [hc _ _ g3]; exact ht.1 c hc'
  · rw [hc _ _ g4]; exact (ht.2 i hi).1
  · rw [hc _ _ g4]; exact (ht.2 i hi).2
def putC (cs : Array Value) : Obj → Obj
  | .cells _ t frozen => .cells cs t frozen
  | o => o
/-- A world that holds the two tables. -/
def laidW (w0 : World) : World := { w0 with heap := (w0.heap.modify 0 (putC (Lib.firstTab.map fun z => Value.int .u8 z).toArray)).modify 1 (putC ((List.range 16).flatMap fun i => [Value.int .u8 (Lib.accLo i), Value.int .u8 (Lib.accHi i)]).toArray) }

section
variable {H : Type} {enc : TypeId × Value → H} {w : World}
theorem i32_wf {n : Int} (h : (Lit.int .i32 n).wf = true) : -2147483648 ≤ n ∧ n ≤ 2147483647 := by
  have e1 : IntKind.i32.min = -2147483648 := by decide
  have e2 : IntKind.i32.max = 2147483647 := by decide
  simp [Lit.wf, e1, e2] at h
  exact h
/-- A slice of characters. -/
theorem runes_came {a : Option Addr} {len cap : Nat} {d : DataW H} {p : List MemPlace} (h : DataW.Trod enc Tryd.prog w 0 (fun _ => true) true 22 (.slice a len cap) d p) :
    ∃ rs : List Int, rs.length = len ∧ RunesAt w (.slice a len cap) rs := by
  obtain ⟨fuel, hf⟩ := h
  rcases open_ints Tryd.underlying22 Tryd.underlying21 (by kernel_rfl) hf with ⟨hcs, _⟩ | ⟨x, l, cap', zs, hcs, _, hl, hm, hz, _, hcell, hwz⟩
  · simp [Value.cells] at hcs
    obtain ⟨rfl, rfl, rfl⟩ := hcs
    exact ⟨[], rfl, none, 0, rfl, ⟨Nat.zero_le _, Nat.zero_le _⟩, fun k hk => absurd hk (Nat.not_lt_zero _)⟩
  · simp [Value.cells] at hcs
    obtain ⟨rfl, rfl, rfl⟩ := hcs
    simp only [if_true] at hz
    have hlen : (zs.take len).length = len := by simp; omega
    refine ⟨zs.take len, hlen, some x, cap, by rw [hlen], ⟨by omega, hm⟩, fun k hk => ?_⟩
    have hk' : k < len := by omega
    obtain ⟨b, off, spot⟩ := x
    have hspot : spot = none := by simpa [Addr.add] using World.cell?_spot (hcell 0 (by omega))
    subst hspot
    have hkc := hcell k (by omega)
    rw [add_plain] at hkc
    have hkz : k < zs.length := by omega
    have e : zs.getD k 0 = (zs.take len)[k] := by simp [List.getD, hkz]
    have hin : zs.getD k 0 ∈ zs := by simp [List.getD, hkz]
    rw [e] at hkc hin
    obtain ⟨w1, w2⟩ := i32_wf (hwz _ hin)
    exact ⟨b, off, rfl, World.block_lt_of_cell? w _ hkc, hkc, w1, w2⟩
/-- A slice of texts. -/
theorem texts_came {a : Option Addr} {len cap : Nat} {d : DataW H} {p : List MemPlace} (h : DataW.Trod enc Tryd.prog w 0 (fun _ => true) true 23 (.slice a len cap) d p) :
    ∃ ss : List ByteArray, ss.length = len ∧ TextsAt w (.slice a len cap) ss := by
  obtain ⟨fuel, hf⟩ := h
  rcases open_strings Tryd.underlying23 Tryd.underlying9 cells9 hf with ⟨hcs, hx⟩ | ⟨x, len', cap', ss, hcs, _, hl, hm, hz, hx, hcell, hws⟩
  · simp [Value.cells] at hcs
    obtain ⟨rfl, rfl, rfl⟩ := hcs
    exact ⟨[], rfl, none, 0, rfl, ⟨Nat.zero_le _, Nat.zero_le _⟩, fun k hk => absurd hk (Nat.not_lt_zero _)⟩
  · simp [Value.cells] at hcs
    obtain ⟨rfl, rfl, rfl⟩ := hcs
    simp only [if_true] at hz
    have hlen : (ss.take len).length = len := by simp; omega
    refine ⟨ss.take len, hlen, some x, cap, by rw [hlen], ⟨by omega, by omega⟩, fun k hk => ?_⟩
    have hk' : k < len := by omega
    obtain ⟨b, off, spot⟩ := x
    have hspot : spot = none := by simpa [Addr.add] using World.cell?_spot (hcell 0 (by omega))
    subst hspot
    have hkc := hcell k (by omega)
    rw [add_plain] at hkc
    have e : ss.getD k ByteArray.empty = (ss.take len)[k] := by simp [List.getD, show k < ss.length by omega]
    rw [e] at hkc
    exact ⟨b, off, rfl, World.block_lt_of_cell? w _ hkc, hkc, hws _ (by simp)⟩
set_option maxRecDepth 100000 in
theorem class_came {cs : Array Value} {d : DataW H} {p : List MemPlace} (hl : cs.size = 4) (h : DataW.Trod enc Tryd.prog w 0 (fun _ => true) true 25 (.agg cs) d p) :
    ∃ (ca la : Option Addr) (cc lc : Nat) (lo hi : Int) (rs : List Int) (ss : List ByteArray), cs = #[.slice ca rs.length cc, .int .i32 lo, .int .i32 hi, .slice la ss.length lc] ∧ RunesAt w (.slice ca rs.length cc) rs ∧ TextsAt w (.slice la ss.length lc) ss ∧ (-2147483648 ≤ lo ∧ lo ≤ 2147483647) ∧ (-2147483648 ≤ hi ∧ hi ≤ 2147483647) := by
  obtain ⟨fuel, hf⟩ := h
  obtain ⟨cl⟩ := cs
  obtain ⟨xs, m, _, _, _, hxl, hf⟩ := DataW.trod_struct Tryd.underlying25 hf
  match cl, hl with
  | [v0, v1, v2, v3], _ =>
    match xs, hxl with
    | [y0, y1, y2, y3], _ =>
      have t0 := hf 0 _ rfl
      have t1 := hf 1 _ rfl
      have t2 := hf 2 _ rfl
      have t3 := hf 3 _ rfl
      simp [cellsI32, cellsRs, cellsTs, Value.cells] at t0 t1 t2 t3
      obtain ⟨z1, e1, _, w1⟩ := DataW.trod_int Tryd.underlying21 t1
      obtain ⟨z2, e2, _, w2⟩ := DataW.trod_int Tryd.underlying21 t2
      simp at e1 e2
      subst e1 e2
      have hs0 : ∃ a n c, v0 = .slice a n c := by
        rcases Deep.open_slice Tryd.underlying22 t0 with ⟨hcs, _⟩ | ⟨x, l, c, m, n, D, Pl, hcs, _, _⟩
        · simp at hcs; exact ⟨_, _, _, hcs⟩
        · simp at hcs; exact ⟨_, _, _, hcs⟩
      have hs3 : ∃ a n c, v3 = .slice a n c := by
        rcases Deep.open_slice Tryd.underlying23 t3 with ⟨hcs, _⟩ | ⟨x, l, c, m, n, D, Pl, hcs, _, _⟩
        · simp at hcs; exact ⟨_, _, _, hcs⟩
        · simp at hcs; exact ⟨_, _, _, hcs⟩
      obtain ⟨a0, n0, c0, rfl⟩ := hs0
      obtain ⟨a3, n3, c3, rfl⟩ := hs3
      obtain ⟨rs, l1, h1⟩ := runes_came (d := y0.1) (p := y0.2) ⟨_, t0⟩
      obtain ⟨ss, l2, h2⟩ := texts_came (d := y3.1) (p := y3.2) ⟨_, t3⟩
      subst l1 l2
      exact ⟨a0, a3, c0, c3, z1, z2, rs, ss, rfl, h1, h2, i32_wf w1, i32_wf w2⟩
end
end Go.Proofs.YtjefpmahdnppjaaDoor
