/- Texts that belong together. -/
import Derived.Test.YtinfnkhghmcelaaDoorMDw
import Derived.Test.YtinfnkhghmcelaaDoorRows
import Derived.Deep.Slices
import Derived.Deep.Strs
import Derived.ProofKit
import Derived.Lib.LaidU8T
import Derived.Lib.LaidIn
import Derived.Lib.LaidTab
import Derived.MakeChecks
import Derived.OpenShut
import Derived.SizedLaws
import Derived.Test.YtinfnkhghmcelaaDoorMJp
/- What comes in: numbers; the units and the tables as the program lays them. -/
namespace Go.Proofs.YtinfnkhghmcelaaDoor
open Go.ChangeShapes Go.WideShapes Go.ChangeAt Go.RowKit
open Go.Deep (open_slice choose_lt)

theorem own : ownKnob Tryd.prog.godebug = none := by kernel_rfl
theorem laidOut : laidOutB Tryd.prog = true := by kernel_rfl
theorem cells3 : Tryd.prog.cellsOf 3 = 1 := by kernel_rfl
theorem cells9 : Tryd.prog.cellsOf 9 = 1 := by kernel_rfl
theorem cellsUn : Tryd.prog.cellsOf 97 = 2 := by kernel_rfl
theorem cellsUs : Tryd.prog.cellsOf 98 = 14 := by kernel_rfl

section
variable {H : Type} {enc : TypeId × Value → H} {w : World}
theorem unit_read {n base : Nat} {sp : Nat → Bool} {held : Bool} {c0 c1 : Value} {nm : List UInt8} {m : Int} {p : List MemPlace} (h : DataW.trod enc Tryd.prog w base sp held n 97 [c0, c1] = some (.agg [.lit (.string nm), .lit (.int .i64 m)], p)) : c0 = .string ⟨nm.toArray⟩ ∧ c1 = .int .i64 m := by
  obtain ⟨xs, k, _, hx, _, hl, hf⟩ := DataW.trod_struct Tryd.underlying97 h
  match xs, hl with
  | [y0, y1], _ =>
    have t0 := hf 0 _ rfl
    have t1 := hf 1 _ rfl
    simp [cells9, cells3] at t0 t1
    obtain ⟨s0, e0, z0, w0⟩ := DataW.trod_string Tryd.underlying9 t0
    obtain ⟨n1, e1, z1, w1⟩ := DataW.trod_int Tryd.underlying3 t1
    simp at e0 e1
    subst e0 e1
    rw [z0, z1] at hx
    simp at hx
    obtain ⟨⟨hs, hn⟩, -⟩ := hx
    refine ⟨?_, by rw [hn]⟩
    rw [hs]
end

theorem list14 {cs : List Value} (h : cs.length = 14) : ∃ c0 c1 c2 c3 c4 c5 c6 c7 c8 c9 c10 c11 c12 c13, cs = [c0, c1, c2, c3, c4, c5, c6, c7, c8, c9, c10, c11, c12, c13] := by
  match cs, h with
  | [c0, c1, c2, c3, c4, c5, c6, c7, c8, c9, c10, c11, c12, c13], _ => exact ⟨c0, c1, c2, c3, c4, c5, c6, c7, c8, c9, c10, c11, c12, c13, rfl⟩
theorem list7 {α : Type} {cs : List α} (h : cs.length = 7) : ∃ c0 c1 c2 c3 c4 c5 c6, cs = [c0, c1, c2, c3, c4, c5, c6] := by
  match cs, h with
  | [c0, c1, c2, c3, c4, c5, c6], _ => exact ⟨c0, c1, c2, c3, c4, c5, c6, rfl⟩
/-- What a row's list gives: the units. -/
theorem laid_units {L : List (String × DataW Unit)} {W : World} (h : laidMet Tryd.prog L W) (hm : ("vigil/num.units", Rows.laid_vigil_num_units) ∈ L) : Units W := by
  have h4 := Lib.laidMet.reads h (n := "vigil/num.units") (d := Rows.laid_vigil_num_units) hm
  obtain ⟨g, t, cs, fuel, p, hg, hty, hvar, hd⟩ := h4
  obtain rfl := Option.some.inj ((show Tryd.prog.globalNamed "vigil/num.units" = some 1 by kernel_rfl).symm.trans hg)
  obtain rfl := Option.some.inj ((show (Tryd.prog.globals[1]?).map (·.type) = some 98 by kernel_rfl).symm.trans hty)
  obtain ⟨xs, m, _, hx, hlen, hl, hf⟩ := DataW.trod_array Tryd.underlying98 hd
  rw [cellsUs] at hlen
  obtain ⟨c0, c1, c2, c3, c4, c5, c6, c7, c8, c9, c10, c11, c12, c13, hcs⟩ := list14 hlen
  obtain ⟨y0, y1, y2, y3, y4, y5, y6, rfl⟩ := list7 hl
  rw [hcs, cellsUn] at hf
  have hz := congrArg Prod.fst hx
  simp [Rows.laid_vigil_num_units] at hz
  obtain ⟨z0, z1, z2, z3, z4, z5, z6⟩ := hz
  obtain ⟨q0, q1⟩ := unit_read (nm := [121]) (m := 31536000000) (p := y0.2) (by have h9 := hf 0 (by decide); have h8 : y0 = (DataW.agg [.lit (.string [121]), .lit (.int .i64 31536000000)], y0.2) := (by rw [z0]); rw [← h8]; exact h9)
  obtain ⟨q2, q3⟩ := unit_read (nm := [119]) (m := 604800000) (p := y1.2) (by have h9 := hf 1 (by decide); have h8 : y1 = (DataW.agg [.lit (.string [119]), .lit (.int .i64 604800000)], y1.2) := (by rw [z1]); rw [← h8]; exact h9)
  obtain ⟨q4, q5⟩ := unit_read (nm := [100]) (m := 86400000) (p := y2.2) (by have h9 := hf 2 (by decide); have h8 : y2 = (DataW.agg [.lit (.string [100]), .lit (.int .i64 86400000)], y2.2) := (by rw [z2]); rw [← h8]; exact h9)
  obtain ⟨q6, q7⟩ := unit_read (nm := [104]) (m := 3600000) (p := y3.2) (by have h9 := hf 3 (by decide); have h8 : y3 = (DataW.agg [.lit (.string [104]), .lit (.int .i64 3600000)], y3.2) := (by rw [z3]); rw [← h8]; exact h9)
  obtain ⟨q8, q9⟩ := unit_read (nm := [109]) (m := 60000) (p := y4.2) (by have h9 := hf 4 (by decide); have h8 : y4 = (DataW.agg [.lit (.string [109]), .lit (.int .i64 60000)], y4.2) := (by rw [z4]); rw [← h8]; exact h9)
  obtain ⟨q10, q11⟩ := unit_read (nm := [115]) (m := 1000) (p := y5.2) (by have h9 := hf 5 (by decide); have h8 : y5 = (DataW.agg [.lit (.string [115]), .lit (.int .i64 1000)], y5.2) := (by rw [z5]); rw [← h8]; exact h9)
  obtain ⟨q12, q13⟩ := unit_read (nm := [109, 115]) (m := 1) (p := y6.2) (by have h9 := hf 6 (by decide); have h8 : y6 = (DataW.agg [.lit (.string [109, 115]), .lit (.int .i64 1)], y6.2) := (by rw [z6]); rw [← h8]; exact h9)
  subst q0 q1 q2 q3 q4 q5 q6 q7 q8 q9 q10 q11 q12 q13
  have hcell : ∀ j, W.cell? ⟨1, j, none⟩ = cs.toList[j]? := fun j => by rw [World.var?_cell hg hvar j, ← Array.getElem?_toList]
  rw [hcs] at hcell
  have hl1 : W.cell? ⟨1, 0, none⟩ = _ := hcell 0
  exact ⟨hcell 0, hcell 1, hcell 2, hcell 3, hcell 4, hcell 5, hcell 6, hcell 7, hcell 8, hcell 9, hcell 10, hcell 11, hcell 12, hcell 13, World.block_lt_of_cell? W _ hl1⟩
theorem laid_of {W : World} (h : laidMetH Tryd.prog Rows.numTextRow.laid W) : Units W := by
  rw [MakeChecks.laidMetH_plain _ _ _ (by kernel_rfl)] at h
  exact laid_units h (.tail _ (.tail _ (.tail _ (.head _))))
theorem u64_came {H : Type} {enc : TypeId × Value → H} {w : World} {n : Int} {d : DataW H} {p : List MemPlace} (h : DataW.Trod enc Tryd.prog w 0 (fun _ => true) true 32 (.int .u64 n) d p) : 0 ≤ n ∧ n ≤ 18446744073709551615 := by
  obtain ⟨fuel, hf⟩ := h
  obtain ⟨m, e, _, hw⟩ := DataW.trod_int Tryd.underlying32 hf
  simp [Value.cells] at e
  subst e
  have e1 : IntKind.u64.min = 0 := by decide
  have e2 : IntKind.u64.max = 18446744073709551615 := by decide
  simp [Lit.wf, e1, e2] at hw
  exact hw
theorem int_came {H : Type} {enc : TypeId × Value → H} {w : World} {n : Int} {d : DataW H} {p : List MemPlace} (h : DataW.Trod enc Tryd.prog w 0 (fun _ => true) true 3 (.int .i64 n) d p) : -9223372036854775808 ≤ n ∧ n ≤ 9223372036854775807 := by
  obtain ⟨fuel, hf⟩ := h
  obtain ⟨m, e, _, hw⟩ := DataW.trod_int Tryd.underlying3 hf
  simp [Value.cells] at e
  subst e
  have e1 : IntKind.i64.min = -9223372036854775808 := by decide
  have e2 : IntKind.i64.max = 9223372036854775807 := by decide
  simp [Lit.wf, e1, e2] at hw
  exact hw
def putC (cs : Array Value) : Obj → Obj
  | .cells _ t frozen => .cells cs t frozen
  | o => o
def lits : DataW Unit → List Value
  | .agg l => l.flatMap fun d => match d with
    | .lit v => [v.toCell]
    | .agg k => k.flatMap fun e => match e with
      | .lit v => [v.toCell]
      | _ => []
    | _ => []
  | _ => []
/-- A world that holds what the row lists. -/
def laidW (w0 : World) : World := { w0 with heap := (((w0.heap.modify 4 (putC (lits Rows.laid_math_bits_deBruijn32tab).toArray)).modify 5 (putC (lits Rows.laid_math_bits_deBruijn64tab).toArray)).modify 2 (putC (lits Rows.laid_internal_strconv_uint64pow10).toArray)).modify 1 (putC (lits Rows.laid_vigil_num_units).toArray) }
end Go.Proofs.YtinfnkhghmcelaaDoor

/- What comes in: the table of the powers of ten. -/
namespace Go.Proofs.YtinfnkhghmcelaaDoor
open Go.ChangeShapes Go.WideShapes Go.ChangeAt Go.RowKit

theorem laid_pow {L : List (String × DataW Unit)} {W : World} (h : laidMet Tryd.prog L W) (hm : ("internal/strconv.uint64pow10", Rows.laid_internal_strconv_uint64pow10) ∈ L) : Pow W := by
  have e1 : (Rows.laid_internal_strconv_uint64pow10 : DataW Unit) = Lib.tabData .u64 Lib.pow10Tab := by kernel_rfl
  have h3 := Lib.laidMet.reads h (n := "internal/strconv.uint64pow10") (d := Rows.laid_internal_strconv_uint64pow10) hm
  rw [e1] at h3
  obtain ⟨g, t, cs, fuel, p, hg, hty, hvar, hd⟩ := h3
  obtain rfl := Option.some.inj ((show Tryd.prog.globalNamed "internal/strconv.uint64pow10" = some 2 by kernel_rfl).symm.trans hg)
  obtain rfl := Option.some.inj ((show (Tryd.prog.globals[2]?).map (·.type) = some 131 by kernel_rfl).symm.trans hty)
  have hcs := Lib.cells_of_tab Tryd.underlying131 Tryd.underlying32 (by kernel_rfl) (by kernel_rfl) hd
  unfold Pow Lib.TabIs
  rw [hvar, ← hcs]
theorem pow_of {W : World} (h : laidMetH Tryd.prog Rows.numTextRow.laid W) : Pow W := by
  rw [MakeChecks.laidMetH_plain _ _ _ (by kernel_rfl)] at h
  exact laid_pow h (.tail _ (.tail _ (.head _)))
theorem laid2 {W : World} (h : laidMetH Tryd.prog Rows.numTextRow.laid W) : Units W ∧ Pow W := ⟨laid_of h, pow_of h⟩
end Go.Proofs.YtinfnkhghmcelaaDoor

/- What comes in: words. -/
namespace Go.Proofs.YtinfnkhghmcelaaDoor
open Go.ChangeShapes Go.WideShapes Go.ChangeAt Go.RowKit

/-- A slice that reads as these words. -/
def UAt (w : World) (v : Value) (xs : List Nat) : Prop := ∃ a c, v = .slice a xs.length c ∧ (xs.length ≤ c ∧ c ≤ maxLen) ∧ ∀ k (hk : k < xs.length), xs[k] < 18446744073709551616 ∧ ∃ b o, a = some ⟨b, o, none⟩ ∧ b < w.heap.size ∧ w.cell? ⟨b, o + k, none⟩ = some (.int .u64 (xs[k] : Nat))
theorem UAt.below {w w' : World} {v : Value} {xs : List Nat} (h : UAt w v xs) (hb : Below w.heap.size w w') : UAt w' v xs := by
  obtain ⟨a, c, e, hlc, hk⟩ := h
  refine ⟨a, c, e, hlc, fun k hlt => ?_⟩
  obtain ⟨hx, b, o, ha, hl, h1⟩ := hk k hlt
  have := hb.size
  exact ⟨hx, b, o, ha, by omega, (hb.cell (p := ⟨b, o + k, none⟩) hl).trans h1⟩
section
variable {H : Type} {enc : TypeId × Value → H} {w : World}
/-- A slice of words. -/
theorem u64s_came {a : Option Addr} {len cap : Nat} {d : DataW H} {p : List MemPlace} (h : DataW.Trod enc Tryd.prog w 0 (fun _ => true) true 30 (.slice a len cap) d p) :
    ∃ xs : List Nat, UAt w (.slice a len cap) xs := by
  obtain ⟨fuel, hf⟩ := h
  rcases open_ints Tryd.underlying30 Tryd.underlying32 (by kernel_rfl) hf with ⟨hcs, _⟩ | ⟨x, l, cap', zs, hcs, _, hl, hm, hz, _, hcell, hwz⟩
  · simp [Value.cells] at hcs
    obtain ⟨rfl, rfl, rfl⟩ := hcs
    exact ⟨[], none, 0, rfl, ⟨Nat.zero_le _, Nat.zero_le _⟩, fun k hk => by simp at hk⟩
  · simp [Value.cells] at hcs
    obtain ⟨rfl, rfl, rfl⟩ := hcs
    simp only [if_true] at hz
    have hlen : ((zs.take len).map fun n => n.toNat).length = len := by simp; omega
    refine ⟨(zs.take len).map fun n => n.toNat, some x, cap, by rw [hlen], ⟨by omega, hm⟩, fun k hk => ?_⟩
    have hk' : k < len := by omega
    obtain ⟨b, off, spot⟩ := x
    have hspot : spot = none := by simpa [Addr.add] using World.cell?_spot (hcell 0 (by omega))
    subst hspot
    have hkc := hcell k (by omega)
    rw [add_plain] at hkc
    have hkz : k < zs.length := by omega
    have hzk : zs.getD k 0 ∈ zs := by simp [List.getD, hkz]
    have hbd := bounds_u64 (hwz _ hzk)
    have e : ((((zs.take len).map fun n => n.toNat)[k] : Nat) : Int) = zs.getD k 0 := by
      have h9 : (((zs.getD k 0).toNat : Nat) : Int) = zs.getD k 0 := by omega
      simpa [List.getD, hkz] using h9
    refine ⟨by omega, b, off, rfl, World.block_lt_of_cell? w _ hkc, by rw [e]; exact hkc⟩
end
end Go.Proofs.YtinfnkhghmcelaaDoor

/- NumText. -/
namespace Go.Proofs.YtinfnkhghmcelaaDoor
open Go.RowKit Go.Maps

theorem numText_any (x : Nat) (w : World) (hx : x < 18446744073709551616) (hp : Pow w) : Calls Tryd.prog 13 #[.float .f64 x] w fun e w' => e = .returned (.string ⟨(textR x).toArray⟩) ∧ Below w.heap.size w w' := by
  obtain ⟨raw, hraw⟩ : ∃ raw, raw = x % 9223372036854775808 := ⟨_, rfl⟩
  by_cases hnan : 9218868437227405312 < raw
  · have h9 := text_nan x raw w hx hraw hnan
    have e1 : textR x = [78, 97, 78] := by unfold textR; rw [← hraw, if_pos hnan]
    rw [e1]
    exact h9
  by_cases hn : 9223372036854775808 ≤ x
  · by_cases hk : raw = 9218868437227405312
    · have e1 : textR x = [45, 73, 110, 102] := by unfold textR; rw [← hraw, if_neg hnan, if_pos hk, if_pos hn]
      rw [e1]
      exact text_inf_n x raw w hx hraw hn hk
    by_cases h0 : raw = 0
    · have e1 : textR x = [45, 48] := by unfold textR bodyR; rw [← hraw, if_neg hnan, if_neg hk, if_pos hn, if_pos h0]; rfl
      rw [e1]
      exact text_zero_n x raw w hx hraw hn h0
    by_cases hk5 : -5 ≤ (dgR raw).2 ∧ (dgR raw).2 ≤ 21
    · have e1 : textR x = 45 :: plainR (dgR raw).1 (dgR raw).2 := by unfold textR bodyR; rw [← hraw, if_neg hnan, if_neg hk, if_pos hn, if_neg h0, if_pos hk5]; rfl
      rw [e1]
      exact text_plain_n x raw w hx hraw hn (by omega) (by omega) hk5
    · have e1 : textR x = 45 :: powR (dgR raw).1 (dgR raw).2 := by unfold textR bodyR; rw [← hraw, if_neg hnan, if_neg hk, if_pos hn, if_neg h0, if_neg hk5]; rfl
      rw [e1]
      exact text_pow_n x raw w hx hraw hn (by omega) (by omega) hk5 hp
  · by_cases hk : raw = 9218868437227405312
    · have e1 : textR x = [43, 73, 110, 102] := by unfold textR; rw [← hraw, if_neg hnan, if_pos hk, if_neg hn]
      rw [e1]
      exact text_inf_p x raw w hx hraw hn hk
    by_cases h0 : raw = 0
    · have e1 : textR x = [48] := by unfold textR bodyR; rw [← hraw, if_neg hnan, if_neg hk, if_neg hn, if_pos h0]; rfl
      rw [e1]
      exact text_zero_p x raw w hx hraw hn h0
    by_cases hk5 : -5 ≤ (dgR raw).2 ∧ (dgR raw).2 ≤ 21
    · have e1 : textR x = plainR (dgR raw).1 (dgR raw).2 := by unfold textR bodyR; rw [← hraw, if_neg hnan, if_neg hk, if_neg hn, if_neg h0, if_pos hk5]; rfl
      rw [e1]
      exact text_plain_p x raw w hx hraw hn (by omega) (by omega) hk5
    · have e1 : textR x = powR (dgR raw).1 (dgR raw).2 := by unfold textR bodyR; rw [← hraw, if_neg hnan, if_neg hk, if_neg hn, if_neg h0, if_neg hk5]; rfl
      rw [e1]
      exact text_pow_p x raw w hx hraw hn (by omega) (by omega) hk5 hp

set_option maxRecDepth 100000 in
set_option maxHeartbeats 4000000 in
theorem text_core (v : Value) (xs : List Nat) (w : World) (ha : UAt w v xs) (hU : Units w) (hP : Pow w) :
    Calls Tryd.prog 4 #[v] w fun e w' => e = .returned (.bool true) ∧ Below w.heap.size w w' := by
  obtain ⟨a, c, rfl, hlc, -⟩ := id ha
  have HA : Hid (UAt w (.slice a xs.length c) xs) := ha
  have HU : Hid (Units w) := hU
  have HPW : Hid (Pow w) := hP
  unfold maxLen at hlc
  clear ha hU hP
  go_enter Tryd.func4, Tryd.ntmps4
  go_wp2
  go_loopw [3] (fun i wr => ∃ k : Nat, k ≤ 3 ∧ k ≤ xs.length ∧ i = .int .i64 k ∧ Hid (Below w.heap.size w wr)) (fun i _ => 3 - (intOf i).toNat)
  case atStart => exact ⟨0, by omega, by omega, rfl, Below.refl _ _⟩
  case round =>
    obtain ⟨k, hk, hkl, rfl, HBL⟩ := hrel
    by_cases hlt : k < xs.length
    · by_cases h60 : k < 3
      · obtain ⟨a', c', e, -, hc⟩ := HA.out.below (HBL.out)
        cases e
        obtain ⟨hx, b, o, rfl, hbl, hcell⟩ := hc k hlt
        generalize xs[k] = x at *
        have hff := frombits_run
        have hlti : (k : Int) < (xs.length : Int) := by omega
        have h60i : (k : Int) < 3 := by omega
        have HD1 : Hid (∀ W : World, Calls Tryd.prog 11 #[.float .f64 x] W fun e w' => e = .returned (.tuple #[.string ⟨(dgR (x % 9223372036854775808)).1.toArray⟩, .int .i64 (dgR (x % 9223372036854775808)).2, .bool (decide (9223372036854775808 ≤ x))]) ∧ Below W.heap.size W w') := fun W => digits_any x W hx
        have HD2 : Hid (∀ W : World, Calls Tryd.prog 12 #[.float .f64 x] W fun e w' => e = .returned (.tuple #[.string ⟨(dgR (x % 9223372036854775808)).1.toArray⟩, .int .i64 (dgR (x % 9223372036854775808)).2, .bool (decide (9223372036854775808 ≤ x))]) ∧ Below W.heap.size W w') := fun W => refDigits_any x W hx
        have HT1 : Hid (∀ W : World, Pow W → Calls Tryd.prog 13 #[.float .f64 x] W fun e w' => e = .returned (.string ⟨(textR x).toArray⟩) ∧ Below W.heap.size W w') := fun W hp => numText_any x W hx hp
        have HT2 : Hid (∀ W : World, Calls Tryd.prog 14 #[.float .f64 x] W fun e w' => e = .returned (.string ⟨(textR x).toArray⟩) ∧ Below W.heap.size W w') := fun W => refText_any x W hx
        generalize (⟨(dgR (x % 9223372036854775808)).1.toArray⟩ : ByteArray) = DS at *
        generalize (dgR (x % 9223372036854775808)).2 = E at *
        generalize (⟨(textR x).toArray⟩ : ByteArray) = TS at *
        generalize decide (9223372036854775808 ≤ x) = N at *
        clear hc
        go_wp2_with (first
          | (go_at_call 11; refine (HD1.out _).mono ?_; clear HD1; rintro e w1 ⟨rfl, hb1⟩; have HB1 : Hid (Below w.heap.size w w1) := HBL.out.trans (hb1.mono HBL.out.size); clear hb1)
          | (go_at_call 12; refine (HD2.out _).mono ?_; clear HD2; rintro e w2 ⟨rfl, hb2⟩; have HB2 : Hid (Below w.heap.size w w2) := HB1.out.trans (hb2.mono HB1.out.size); clear hb2)
          | (go_at_call 13; refine (HT1.out _ (HPW.out.below HB2.out)).mono ?_; clear HT1; rintro e w3 ⟨rfl, hb3⟩; have HB3 : Hid (Below w.heap.size w w3) := HB2.out.trans (hb3.mono HB2.out.size); clear hb3)
          | (go_at_call 14; refine (HT2.out _).mono ?_; clear HT2; rintro e w4 ⟨rfl, hb4⟩; have HB4 : Hid (Below w.heap.size w w4) := HB3.out.trans (hb4.mono HB3.out.size); clear hb4))
        go_roundw
        case rel => exact ⟨k + 1, by omega, by omega, by go_num, HB4.out⟩
        case measure => simp [intOf]; omega
      · have HWK : Hid (Calls Tryd.prog 9 #[] wr fun e w' => e = .returned (.bool true) ∧ Below wr.heap.size wr w') := wakes_any wr (HU.out.below HBL.out)
        have h60i : ¬ (k : Int) < 3 := by omega
        have hlti : (k : Int) < (xs.length : Int) := by omega
        go_wp2_with (go_at_call 9; refine HWK.out.mono ?_; clear HWK; rintro e w7 ⟨rfl, hb7⟩; have HB7 : Hid (Below w.heap.size w w7) := HBL.out.trans (hb7.mono HBL.out.size); clear hb7)
        go_ret
        exact ⟨rfl, HB7.out⟩
    · have HWK : Hid (Calls Tryd.prog 9 #[] wr fun e w' => e = .returned (.bool true) ∧ Below wr.heap.size wr w') := wakes_any wr (HU.out.below HBL.out)
      have hki : ¬ (k : Int) < (xs.length : Int) := by omega
      go_wp2_with (go_at_call 9; refine HWK.out.mono ?_; clear HWK; rintro e w7 ⟨rfl, hb7⟩; have HB7 : Hid (Below w.heap.size w w7) := HBL.out.trans (hb7.mono HBL.out.size); clear hb7)
      go_ret
      exact ⟨rfl, HB7.out⟩
theorem text_w (v : Value) (xs : List Nat) (W : World) (ha : UAt W v xs) (h : Units W ∧ Pow W) :
    Calls Tryd.prog 4 #[v] W fun e w' => e = .returned (.bool true) ∧ Below W.heap.size W w' := text_core v xs W ha h.1 h.2
end Go.Proofs.YtinfnkhghmcelaaDoor
