/- Texts that belong together. -/
import Derived.Test.YtinfnkhghmcelaaDoorMDw
import Derived.Test.YtinfnkhghmcelaaDoorRows
import Derived.Deep.Slices
import Derived.Deep.Strs
import Derived.ProofKit
import Derived.Lib.LaidU8T
import Derived.Lib.LaidIn
import Derived.Lib.LaidTab
import Derived.MakeChecks
import Derived.OpenShut
import Derived.SizedLaws
/- A number taken within a bound. -/
namespace Go.Proofs.YtinfnkhghmcelaaDoor
open Go.RowKit Go.Maps

theorem ret_i {a b : Int} (h : a = b) : Ending.returned (.int .i64 a) = .returned (.int .i64 b) := by rw [h]
theorem emod_of_tmod (n m : Int) : n % m = (n.tmod m) % m := by
  have h := Int.mul_tdiv_add_tmod n m
  conv => lhs; rw [← h, Int.add_comm]
  rw [Int.add_mul_emod_self_left]

set_option maxRecDepth 100000 in
set_option maxHeartbeats 1000000 in
theorem keepWithin_any (n m : Int) (w : World) (hm : 1 ≤ m) (hm' : m ≤ 4611686018427387904) (_hn : -9223372036854775808 ≤ n) (_hn' : n ≤ 9223372036854775807) :
    Calls Tryd.prog 15 #[.int .i64 n, .int .i64 m] w fun e w' => e = .returned (.int .i64 (n % m)) ∧ w' = w := by
  have hmz : m ≠ 0 := by omega
  have h1 : -m < Int.tmod n m := by
    have := Int.lt_tmod_of_pos n (show 0 < m by omega); omega
  have h2 : Int.tmod n m < m := Int.tmod_lt_of_pos n (by omega)
  by_cases h : Int.tmod n m < 0
  · go_enter Tryd.func15, Tryd.ntmps15
    go_wp2
    go_ret
    have e : n.tmod m + m = n % m := by
      have e2 := Int.add_mul_emod_self_left (n.tmod m) m 1
      rw [Int.mul_one] at e2
      rw [emod_of_tmod, ← e2]
      exact (Int.emod_eq_of_lt (by omega) (by omega)).symm
    exact ⟨ret_i e, rfl⟩
  · go_enter Tryd.func15, Tryd.ntmps15
    go_wp2
    go_ret
    have e : n.tmod m = n % m := by
      rw [emod_of_tmod]
      exact (Int.emod_eq_of_lt (by omega) (by omega)).symm
    exact ⟨ret_i e, rfl⟩
end Go.Proofs.YtinfnkhghmcelaaDoor

/- What comes in: numbers; the units and the tables as the program lays them. -/
namespace Go.Proofs.YtinfnkhghmcelaaDoor
open Go.ChangeShapes Go.WideShapes Go.ChangeAt Go.RowKit
open Go.Deep (open_slice choose_lt)

theorem own : ownKnob Tryd.prog.godebug = none := by kernel_rfl
theorem laidOut : laidOutB Tryd.prog = true := by kernel_rfl
theorem cells3 : Tryd.prog.cellsOf 3 = 1 := by kernel_rfl
theorem cells9 : Tryd.prog.cellsOf 9 = 1 := by kernel_rfl
theorem cellsUn : Tryd.prog.cellsOf 97 = 2 := by kernel_rfl
theorem cellsUs : Tryd.prog.cellsOf 98 = 14 := by kernel_rfl

section
variable {H : Type} {enc : TypeId × Value → H} {w : World}
theorem unit_read {n base : Nat} {sp : Nat → Bool} {held : Bool} {c0 c1 : Value} {nm : List UInt8} {m : Int} {p : List MemPlace} (h : DataW.trod enc Tryd.prog w base sp held n 97 [c0, c1] = some (.agg [.lit (.string nm), .lit (.int .i64 m)], p)) : c0 = .string ⟨nm.toArray⟩ ∧ c1 = .int .i64 m := by
  obtain ⟨xs, k, _, hx, _, hl, hf⟩ := DataW.trod_struct Tryd.underlying97 h
  match xs, hl with
  | [y0, y1], _ =>
    have t0 := hf 0 _ rfl
    have t1 := hf 1 _ rfl
    simp [cells9, cells3] at t0 t1
    obtain ⟨s0, e0, z0, w0⟩ := DataW.trod_string Tryd.underlying9 t0
    obtain ⟨n1, e1, z1, w1⟩ := DataW.trod_int Tryd.underlying3 t1
    simp at e0 e1
    subst e0 e1
    rw [z0, z1] at hx
    simp at hx
    obtain ⟨⟨hs, hn⟩, -⟩ := hx
    refine ⟨?_, by rw [hn]⟩
    rw [hs]
end

theorem list14 {cs : List Value} (h : cs.length = 14) : ∃ c0 c1 c2 c3 c4 c5 c6 c7 c8 c9 c10 c11 c12 c13, cs = [c0, c1, c2, c3, c4, c5, c6, c7, c8, c9, c10, c11, c12, c13] := by
  match cs, h with
  | [c0, c1, c2, c3, c4, c5, c6, c7, c8, c9, c10, c11, c12, c13], _ => exact ⟨c0, c1, c2, c3, c4, c5, c6, c7, c8, c9, c10, c11, c12, c13, rfl⟩
theorem list7 {α : Type} {cs : List α} (h : cs.length = 7) : ∃ c0 c1 c2 c3 c4 c5 c6, cs = [c0, c1, c2, c3, c4, c5, c6] := by
  match cs, h with
  | [c0, c1, c2, c3, c4, c5, c6], _ => exact ⟨c0, c1, c2, c3, c4, c5, c6, rfl⟩
/-- What a row's list gives: the units. -/
theorem laid_units {L : List (String × DataW Unit)} {W : World} (h : laidMet Tryd.prog L W) (hm : ("vigil/num.units", Rows.laid_vigil_num_units) ∈ L) : Units W := by
  have h4 := Lib.laidMet.reads h (n := "vigil/num.units") (d := Rows.laid_vigil_num_units) hm
  obtain ⟨g, t, cs, fuel, p, hg, hty, hvar, hd⟩ := h4
  obtain rfl := Option.some.inj ((show Tryd.prog.globalNamed "vigil/num.units" = some 1 by kernel_rfl).symm.trans hg)
  obtain rfl := Option.some.inj ((show (Tryd.prog.globals[1]?).map (·.type) = some 98 by kernel_rfl).symm.trans hty)
  obtain ⟨xs, m, _, hx, hlen, hl, hf⟩ := DataW.trod_array Tryd.underlying98 hd
  rw [cellsUs] at hlen
  obtain ⟨c0, c1, c2, c3, c4, c5, c6, c7, c8, c9, c10, c11, c12, c13, hcs⟩ := list14 hlen
  obtain ⟨y0, y1, y2, y3, y4, y5, y6, rfl⟩ := list7 hl
  rw [hcs, cellsUn] at hf
  have hz := congrArg Prod.fst hx
  simp [Rows.laid_vigil_num_units] at hz
  obtain ⟨z0, z1, z2, z3, z4, z5, z6⟩ := hz
  obtain ⟨q0, q1⟩ := unit_read (nm := [121]) (m := 31536000000) (p := y0.2) (by have h9 := hf 0 (by decide); have h8 : y0 = (DataW.agg [.lit (.string [121]), .lit (.int .i64 31536000000)], y0.2) := (by rw [z0]); rw [← h8]; exact h9)
  obtain ⟨q2, q3⟩ := unit_read (nm := [119]) (m := 604800000) (p := y1.2) (by have h9 := hf 1 (by decide); have h8 : y1 = (DataW.agg [.lit (.string [119]), .lit (.int .i64 604800000)], y1.2) := (by rw [z1]); rw [← h8]; exact h9)
  obtain ⟨q4, q5⟩ := unit_read (nm := [100]) (m := 86400000) (p := y2.2) (by have h9 := hf 2 (by decide); have h8 : y2 = (DataW.agg [.lit (.string [100]), .lit (.int .i64 86400000)], y2.2) := (by rw [z2]); rw [← h8]; exact h9)
  obtain ⟨q6, q7⟩ := unit_read (nm := [104]) (m := 3600000) (p := y3.2) (by have h9 := hf 3 (by decide); have h8 : y3 = (DataW.agg [.lit (.string [104]), .lit (.int .i64 3600000)], y3.2) := (by rw [z3]); rw [← h8]; exact h9)
  obtain ⟨q8, q9⟩ := unit_read (nm := [109]) (m := 60000) (p := y4.2) (by have h9 := hf 4 (by decide); have h8 : y4 = (DataW.agg [.lit (.string [109]), .lit (.int .i64 60000)], y4.2) := (by rw [z4]); rw [← h8]; exact h9)
  obtain ⟨q10, q11⟩ := unit_read (nm := [115]) (m := 1000) (p := y5.2) (by have h9 := hf 5 (by decide); have h8 : y5 = (DataW.agg [.lit (.string [115]), .lit (.int .i64 1000)], y5.2) := (by rw [z5]); rw [← h8]; exact h9)
  obtain ⟨q12, q13⟩ := unit_read (nm := [109, 115]) (m := 1) (p := y6.2) (by have h9 := hf 6 (by decide); have h8 : y6 = (DataW.agg [.lit (.string [109, 115]), .lit (.int .i64 1)], y6.2) := (by rw [z6]); rw [← h8]; exact h9)
  subst q0 q1 q2 q3 q4 q5 q6 q7 q8 q9 q10 q11 q12 q13
  have hcell : ∀ j, W.cell? ⟨1, j, none⟩ = cs.toList[j]? := fun j => by rw [World.var?_cell hg hvar j, ← Array.getElem?_toList]
  rw [hcs] at hcell
  have hl1 : W.cell? ⟨1, 0, none⟩ = _ := hcell 0
  exact ⟨hcell 0, hcell 1, hcell 2, hcell 3, hcell 4, hcell 5, hcell 6, hcell 7, hcell 8, hcell 9, hcell 10, hcell 11, hcell 12, hcell 13, World.block_lt_of_cell? W _ hl1⟩
theorem laid_of {W : World} (h : laidMetH Tryd.prog Rows.numTextRow.laid W) : Units W := by
  rw [MakeChecks.laidMetH_plain _ _ _ (by kernel_rfl)] at h
  exact laid_units h (.tail _ (.tail _ (.tail _ (.head _))))
theorem u64_came {H : Type} {enc : TypeId × Value → H} {w : World} {n : Int} {d : DataW H} {p : List MemPlace} (h : DataW.Trod enc Tryd.prog w 0 (fun _ => true) true 32 (.int .u64 n) d p) : 0 ≤ n ∧ n ≤ 18446744073709551615 := by
  obtain ⟨fuel, hf⟩ := h
  obtain ⟨m, e, _, hw⟩ := DataW.trod_int Tryd.underlying32 hf
  simp [Value.cells] at e
  subst e
  have e1 : IntKind.u64.min = 0 := by decide
  have e2 : IntKind.u64.max = 18446744073709551615 := by decide
  simp [Lit.wf, e1, e2] at hw
  exact hw
theorem int_came {H : Type} {enc : TypeId × Value → H} {w : World} {n : Int} {d : DataW H} {p : List MemPlace} (h : DataW.Trod enc Tryd.prog w 0 (fun _ => true) true 3 (.int .i64 n) d p) : -9223372036854775808 ≤ n ∧ n ≤ 9223372036854775807 := by
  obtain ⟨fuel, hf⟩ := h
  obtain ⟨m, e, _, hw⟩ := DataW.trod_int Tryd.underlying3 hf
  simp [Value.cells] at e
  subst e
  have e1 : IntKind.i64.min = -9223372036854775808 := by decide
  have e2 : IntKind.i64.max = 9223372036854775807 := by decide
  simp [Lit.wf, e1, e2] at hw
  exact hw
def putC (cs : Array Value) : Obj → Obj
  | .cells _ t frozen => .cells cs t frozen
  | o => o
def lits : DataW Unit → List Value
  | .agg l => l.flatMap fun d => match d with
    | .lit v => [v.toCell]
    | .agg k => k.flatMap fun e => match e with
      | .lit v => [v.toCell]
      | _ => []
    | _ => []
  | _ => []
/-- A world that holds what the row lists. -/
def laidW (w0 : World) : World := { w0 with heap := (((w0.heap.modify 4 (putC (lits Rows.laid_math_bits_deBruijn32tab).toArray)).modify 5 (putC (lits Rows.laid_math_bits_deBruijn64tab).toArray)).modify 2 (putC (lits Rows.laid_internal_strconv_uint64pow10).toArray)).modify 1 (putC (lits Rows.laid_vigil_num_units).toArray) }
end Go.Proofs.YtinfnkhghmcelaaDoor

/- What comes in: the table of the powers of ten. -/
namespace Go.Proofs.YtinfnkhghmcelaaDoor
open Go.ChangeShapes Go.WideShapes Go.ChangeAt Go.RowKit

theorem laid_pow {L : List (String × DataW Unit)} {W : World} (h : laidMet Tryd.prog L W) (hm : ("internal/strconv.uint64pow10", Rows.laid_internal_strconv_uint64pow10) ∈ L) : Pow W := by
  have e1 : (Rows.laid_internal_strconv_uint64pow10 : DataW Unit) = Lib.tabData .u64 Lib.pow10Tab := by kernel_rfl
  have h3 := Lib.laidMet.reads h (n := "internal/strconv.uint64pow10") (d := Rows.laid_internal_strconv_uint64pow10) hm
  rw [e1] at h3
  obtain ⟨g, t, cs, fuel, p, hg, hty, hvar, hd⟩ := h3
  obtain rfl := Option.some.inj ((show Tryd.prog.globalNamed "internal/strconv.uint64pow10" = some 2 by kernel_rfl).symm.trans hg)
  obtain rfl := Option.some.inj ((show (Tryd.prog.globals[2]?).map (·.type) = some 131 by kernel_rfl).symm.trans hty)
  have hcs := Lib.cells_of_tab Tryd.underlying131 Tryd.underlying32 (by kernel_rfl) (by kernel_rfl) hd
  unfold Pow Lib.TabIs
  rw [hvar, ← hcs]
theorem pow_of {W : World} (h : laidMetH Tryd.prog Rows.numTextRow.laid W) : Pow W := by
  rw [MakeChecks.laidMetH_plain _ _ _ (by kernel_rfl)] at h
  exact laid_pow h (.tail _ (.tail _ (.head _)))
theorem laid2 {W : World} (h : laidMetH Tryd.prog Rows.numTextRow.laid W) : Units W ∧ Pow W := ⟨laid_of h, pow_of h⟩
end Go.Proofs.YtinfnkhghmcelaaDoor

/- Bits, and a float beside itself. -/
namespace Go.Proofs.YtinfnkhghmcelaaDoor
open Go.RowKit Go.Maps

theorem keepBits_any (x y : Nat) (w : World) :
    Calls Tryd.prog 8 #[.float .f64 x, .float .f64 y] w fun e w' => e = .returned (.bool (decide (x = y))) ∧ w' = w := by
  have hfb := floatbits_run
  have HE : Hid (((x : Int) == (y : Int)) = decide (x = y)) := by
    show _ = _
    by_cases h : x = y
    · subst h; simp
    · simp [h]; omega
  go_enter Tryd.func8, Tryd.ntmps8
  go_wp2
  go_ret
  exact ⟨by rw [← HE.out]; rfl, rfl⟩
theorem order_self {x : Nat} (h : x % 9223372036854775808 ≤ 9218868437227405312) : FloatKind.f64.format.order x x = some .eq := by
  have h1 := order_key h h
  have h2 : compare (keyF x) (keyF x) = Ordering.eq := by
    show compareOfLessAndEq _ _ = _
    unfold compareOfLessAndEq
    simp
  rw [h2] at h1
  exact h1

end Go.Proofs.YtinfnkhghmcelaaDoor
