/- What comes in at ExpoLine: the tables and the errors of the library. -/
import Derived.Test.YtfckdleahljdeaaGreatDoorMFz5
import Derived.Test.YtfckdleahljdeaaGreatDoorMEx7
import Derived.Test.YtfckdleahljdeaaGreatDoorSw
import Derived.Test.YtfckdleahljdeaaGreatDoorRows
import Derived.Deep.Slices
import Derived.Deep.Strs
import Derived.ProofKit
import Derived.Lib.LaidU8T
import Derived.Lib.LaidIn
import Derived.Lib.LaidTab
import Derived.MakeChecks
import Derived.SizedLaws
import Derived.OpenShut
import Derived.Stop.LaidErr
import Derived.LaidLaws
namespace Go.Proofs.YtfckdleahljdeaaGreatDoor
open Go.ChangeShapes Go.WideShapes Go.ChangeAt Go.RowKit
open Go.Deep (open_slice choose_lt)

theorem own : ownKnob Tryz.prog.godebug = none := by kernel_rfl
theorem laidOut : laidOutB Tryz.prog = true := by kernel_rfl
theorem starErr : "*" ++ "errors.errorString" = "*errors.errorString" := by decide
theorem rowErr (u : TypeId) (h : Tryz.prog.typeName? 3 u = some "*errors.errorString") : u = 176 :=
  typeName_ptr_named (nm := "errors.errorString") (by rw [starErr]; kernel_rfl) (by kernel_rfl) (by decide) u (by rw [starErr]; exact h)
theorem laid_powE {L : List (String × DataW Unit)} {W : World} (h : laidMet Tryz.prog L W) (hm : ("internal/strconv.uint64pow10", Rows.laid_internal_strconv_uint64pow10) ∈ L) : Nu.Pow W := by
  have e1 : (Rows.laid_internal_strconv_uint64pow10 : DataW Unit) = Lib.tabData .u64 Lib.pow10Tab := by kernel_rfl
  have h3 := Lib.laidMet.reads h (n := "internal/strconv.uint64pow10") (d := Rows.laid_internal_strconv_uint64pow10) hm
  rw [e1] at h3
  obtain ⟨g, t, cs, fuel, p, hg, hty, hvar, hd⟩ := h3
  obtain rfl := Option.some.inj ((show Tryz.prog.globalNamed "internal/strconv.uint64pow10" = some 6 by kernel_rfl).symm.trans hg)
  obtain rfl := Option.some.inj ((show (Tryz.prog.globals[6]?).map (·.type) = some 186 by kernel_rfl).symm.trans hty)
  have hcs := Lib.cells_of_tab Tryz.underlying186 Tryz.underlying63 (by kernel_rfl) (by kernel_rfl) hd
  unfold Nu.Pow Lib.TabIs
  rw [hvar, ← hcs]
theorem laid_tabsE {L : List (String × DataW Unit)} {W : World} (h : laidMet Tryz.prog L W) (h1 : ("unicode/utf8.first", Rows.laid_unicode_utf8_first) ∈ L) (h2 : ("unicode/utf8.acceptRanges", Rows.laid_unicode_utf8_acceptRanges) ∈ L) : Tabs W := by
  have e1 : Rows.laid_unicode_utf8_first = Lib.firstData := by kernel_rfl
  have e2 : (Rows.laid_unicode_utf8_acceptRanges : DataW Unit) = Lib.acceptData := by kernel_rfl
  have h3 := Lib.laidMet.reads h h1
  have h4 := Lib.laidMet.reads h h2
  rw [e1] at h3
  rw [e2] at h4
  have ht := utf8Tabs_of_readsT (U8Types.of196 Tryz.laysValid) ⟨by kernel_rfl, by kernel_rfl, by kernel_rfl, by kernel_rfl, by kernel_rfl, by kernel_rfl, by kernel_rfl⟩ h3 h4
  refine ⟨ht, ?_, ?_⟩
  · have := World.block_lt_of_cell? W _ (ht.1 0 (by decide))
    exact this
  · have := World.block_lt_of_cell? W _ (ht.2 0 (by decide)).1
    exact this
/-- What the row's list, and the world's shape, give. -/
theorem env_of {W : World} (h : laidMetH Tryz.prog Rows.expoLineRow.laid W) (hsh : W.ShapedOpen Tryz.prog) : Env W W.heap.size := by
  rw [MakeChecks.laidMetH_plain _ _ _ (by kernel_rfl)] at h
  have hp := laid_powE h (.tail _ (.tail _ (.head _)))
  have ht := laid_tabsE h (.tail _ (.tail _ (.tail _ (.tail _ (.tail _ (.tail _ (.head _))))))) (.tail _ (.tail _ (.tail _ (.head _))))
  have hr := h.tail.tail.tail.tail
  have hs := hr.tail
  obtain ⟨a0, s0, hv0, -⟩ := laid_sentinel (g := 5) hr (by kernel_rfl) (by kernel_rfl) Tryz.underlying69 rowErr Tryz.underlying176 Tryz.underlying178 rfl rfl Tryz.underlying9 (by kernel_rfl) (by kernel_rfl)
  obtain ⟨a1, s1, hv1, -⟩ := laid_sentinel (g := 4) hs (by kernel_rfl) (by kernel_rfl) Tryz.underlying69 rowErr Tryz.underlying176 Tryz.underlying178 rfl rfl Tryz.underlying9 (by kernel_rfl) (by kernel_rfl)
  have c0 : W.cell? ⟨5, 0, none⟩ = some (.iface 176 (.pointer (some a0))) := by
    rw [World.var?_cell (show Tryz.prog.globalNamed "strconv.ErrRange" = some 5 by kernel_rfl) hv0 0]
    rfl
  have c1 : W.cell? ⟨4, 0, none⟩ = some (.iface 176 (.pointer (some a1))) := by
    rw [World.var?_cell (show Tryz.prog.globalNamed "strconv.ErrSyntax" = some 4 by kernel_rfl) hv1 0]
    rfl
  exact Env.of ht hp ⟨⟨_, _, c1⟩, ⟨_, _, c0⟩, World.block_lt_of_cell? W _ c0, World.block_lt_of_cell? W _ c1⟩ (Tryz.laysM145.s1_3 W hsh)

def putC (cs : Array Value) : Obj → Obj
  | .cells _ t frozen => .cells cs t frozen
  | o => o
def lits : DataW Unit → List Value
  | .agg l => l.flatMap fun d => match d with
    | .lit v => [v.toCell]
    | .agg k => k.flatMap fun e => match e with
      | .lit v => [v.toCell]
      | _ => []
    | _ => []
  | _ => []
/-- A world that holds what the rows list. -/
noncomputable def laidE (os : Os) : World :=
  let N := (World.settled Tryz.prog os).heap.size
  let w0 := World.holding Tryz.prog os ⟨#[.cells #[.string ⟨#[118, 97, 108, 117, 101, 32, 111, 117, 116, 32, 111, 102, 32, 114, 97, 110, 103, 101]⟩] 178, .cells #[.string ⟨#[105, 110, 118, 97, 108, 105, 100, 32, 115, 121, 110, 116, 97, 120]⟩] 178], #[], []⟩
  { w0 with heap := (((((((w0.heap.modify 7 (putC (lits Rows.laid_math_bits_deBruijn32tab).toArray)).modify 8 (putC (lits Rows.laid_math_bits_deBruijn64tab).toArray)).modify 6 (putC (lits Rows.laid_internal_strconv_uint64pow10).toArray)).modify 2 (putC (Lib.firstTab.map fun z => Value.int .u8 z).toArray)).modify 3 (putC ((List.range 16).flatMap fun i => [Value.int .u8 (Lib.accLo i), Value.int .u8 (Lib.accHi i)]).toArray)).modify 5 (putC #[.iface 176 (.pointer (some ⟨N, 0, none⟩))])).modify 4 (putC #[.iface 176 (.pointer (some ⟨N + 1, 0, none⟩))])) }

theorem u8_wf {n : Int} (h : (Lit.int .u8 n).wf = true) : ((UInt8.ofNat n.toNat).toNat : Int) = n := by
  have := bounds_u8 h
  rw [UInt8.toNat_ofNat']
  omega
theorem cells9 : Tryz.prog.cellsOf 9 = 1 := by kernel_rfl
section
variable {H : Type} {enc : TypeId × Value → H} {w : World}
theorem int_came {n : Int} {d : DataW H} {p : List MemPlace} (h : DataW.Trod enc Tryz.prog w 0 (fun _ => true) true 3 (.int .i64 n) d p) : -9223372036854775808 ≤ n ∧ n ≤ 9223372036854775807 := by
  obtain ⟨fuel, hf⟩ := h
  obtain ⟨m, e, _, hw⟩ := DataW.trod_int Tryz.underlying3 hf
  simp [Value.cells] at e
  subst e
  have e1 : IntKind.i64.min = -9223372036854775808 := by decide
  have e2 : IntKind.i64.max = 9223372036854775807 := by decide
  simp [Lit.wf, e1, e2] at hw
  exact hw
/-- A slice of bytes. -/
theorem bytes_came {a : Option Addr} {len cap : Nat} {d : DataW H} {p : List MemPlace} (h : DataW.Trod enc Tryz.prog w 0 (fun _ => true) true 23 (.slice a len cap) d p) :
    ∃ bs : List UInt8, BytesAt w (.slice a len cap) bs := by
  obtain ⟨fuel, hf⟩ := h
  rcases open_ints Tryz.underlying23 Tryz.underlying5 (by kernel_rfl) hf with ⟨hcs, _⟩ | ⟨x, l, cap', zs, hcs, _, hl, hm, hz, _, hcell, hwz⟩
  · simp [Value.cells] at hcs
    obtain ⟨rfl, rfl, rfl⟩ := hcs
    exact ⟨[], BytesAt.nil⟩
  · simp [Value.cells] at hcs
    obtain ⟨rfl, rfl, rfl⟩ := hcs
    simp only [if_true] at hz
    have hlen : ((zs.take len).map fun n => UInt8.ofNat n.toNat).length = len := by simp; omega
    refine ⟨(zs.take len).map fun n => UInt8.ofNat n.toNat, some x, cap, by rw [hlen], ⟨by omega, hm⟩, (fun e9 => by cases e9), fun k hk => ?_⟩
    have hk' : k < len := by omega
    obtain ⟨b, off, spot⟩ := x
    have hspot : spot = none := by simpa [Addr.add] using World.cell?_spot (hcell 0 (by omega))
    subst hspot
    have hkc := hcell k (by omega)
    rw [add_plain] at hkc
    have hzk : zs.getD k 0 ∈ zs := by
      have : k < zs.length := by omega
      simp [List.getD, this]
    have e : (((zs.take len).map fun n => UInt8.ofNat n.toNat)[k].toNat : Int) = zs.getD k 0 := by
      have hkz : k < zs.length := by omega
      have h9 := u8_wf (hwz _ hzk)
      simpa [List.getD, hkz] using h9
    exact ⟨b, off, rfl, World.block_lt_of_cell? w _ hkc, by rw [e]; exact hkc⟩
/-- A slice of texts. -/
theorem texts_came {a : Option Addr} {len cap : Nat} {d : DataW H} {p : List MemPlace} (h : DataW.Trod enc Tryz.prog w 0 (fun _ => true) true 22 (.slice a len cap) d p) :
    ∃ ss : List ByteArray, TextsAt w (.slice a len cap) ss := by
  obtain ⟨fuel, hf⟩ := h
  rcases open_strings Tryz.underlying22 Tryz.underlying9 cells9 hf with ⟨hcs, hx⟩ | ⟨x, len', cap', ss, hcs, _, hl, hm, hz, hx, hcell, hws⟩
  · simp [Value.cells] at hcs
    obtain ⟨rfl, rfl, rfl⟩ := hcs
    exact ⟨[], none, 0, rfl, ⟨Nat.zero_le _, Nat.zero_le _⟩, fun k hk => absurd hk (Nat.not_lt_zero _)⟩
  · simp [Value.cells] at hcs
    obtain ⟨rfl, rfl, rfl⟩ := hcs
    simp only [if_true] at hz
    have hlen : (ss.take len).length = len := by simp; omega
    refine ⟨ss.take len, some x, cap, by rw [hlen], ⟨by omega, by omega⟩, fun k hk => ?_⟩
    have hk' : k < len := by omega
    obtain ⟨b, off, spot⟩ := x
    have hspot : spot = none := by simpa [Addr.add] using World.cell?_spot (hcell 0 (by omega))
    subst hspot
    have hkc := hcell k (by omega)
    rw [add_plain] at hkc
    have e : ss.getD k ByteArray.empty = (ss.take len)[k] := by simp [List.getD, show k < ss.length by omega]
    rw [e] at hkc
    exact ⟨b, off, rfl, World.block_lt_of_cell? w _ hkc, hkc, hws _ (by simp)⟩
end
end Go.Proofs.YtfckdleahljdeaaGreatDoor
