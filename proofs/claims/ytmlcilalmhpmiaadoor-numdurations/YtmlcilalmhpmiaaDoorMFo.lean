/- Texts that belong together. -/
import Derived.WalkKit
import Derived.Test.YtmlcilalmhpmiaaDoorMDe
import Derived.Test.YtmlcilalmhpmiaaDoorMDv
import Derived.Test.YtmlcilalmhpmiaaDoorRows
import Derived.Deep.Slices
import Derived.Deep.Strs
import Derived.ProofKit
import Derived.Lib.LaidU8T
import Derived.Lib.LaidIn
import Derived.Lib.LaidTab
import Derived.MakeChecks
import Derived.OpenShut
/- Floats stand in the order of their bits. -/
namespace Go.Proofs.YtmlcilalmhpmiaaDoor
open Ieee

/-- A float's size without its sign, counted in the least floats. -/
def magF (r : Nat) : Nat := if r < 4503599627370496 then r else (4503599627370496 + r % 4503599627370496) * 2 ^ (r / 4503599627370496 - 1)
theorem magF_succ (r : Nat) : magF r < magF (r + 1) := by
  unfold magF
  by_cases h : r + 1 < 4503599627370496
  · rw [if_pos h, if_pos (by omega)]; omega
  · rw [if_neg h]
    by_cases h2 : r < 4503599627370496
    · rw [if_pos h2]
      obtain rfl : r = 4503599627370495 := by omega
      decide
    · rw [if_neg h2]
      have hp : 0 < 2 ^ (r / 4503599627370496 - 1) := Nat.pow_pos (by decide)
      by_cases h3 : (r + 1) / 4503599627370496 = r / 4503599627370496
      · rw [h3]
        exact Nat.mul_lt_mul_of_pos_right (by omega) hp
      · have h4 : (r + 1) / 4503599627370496 = r / 4503599627370496 + 1 := by omega
        have h5 : (r + 1) % 4503599627370496 = 0 := by omega
        have h6 : r % 4503599627370496 = 4503599627370495 := by omega
        have h7 : (r + 1) / 4503599627370496 - 1 = (r / 4503599627370496 - 1) + 1 := by omega
        rw [h7, h5, h6, Nat.pow_succ]
        generalize 2 ^ (r / 4503599627370496 - 1) = P at *
        omega
theorem magF_lt {r s : Nat} (h : r < s) : magF r < magF s := by
  obtain ⟨k, rfl⟩ : ∃ k, s = r + 1 + k := ⟨s - (r + 1), by omega⟩
  clear h
  induction k with
  | zero => exact magF_succ r
  | succ k ih => exact Nat.lt_trans ih (magF_succ _)
theorem magF_iff {r s : Nat} : magF r < magF s ↔ r < s := by
  constructor
  · intro h
    rcases Nat.lt_or_ge r s with h1 | h1
    · exact h1
    · rcases Nat.lt_or_ge s r with h2 | h2
      · have := magF_lt h2; omega
      · have : r = s := by omega
        subst this; omega
  · exact magF_lt
def keyF (x : Nat) : Int := if x / 9223372036854775808 % 2 = 1 then -((x % 9223372036854775808 : Nat) : Int) else ((x % 9223372036854775808 : Nat) : Int)
theorem read_double (x : Nat) : double.read x = (if x % 9223372036854775808 < 4503599627370496 then .number (x / 9223372036854775808 % 2 == 1) (x % 9223372036854775808) (-1074)
    else if x % 9223372036854775808 < 9218868437227405312 then .number (x / 9223372036854775808 % 2 == 1) (4503599627370496 + x % 9223372036854775808 % 4503599627370496) (-1074 + (x % 9223372036854775808 / 4503599627370496 - 1 : Nat))
    else if x % 9223372036854775808 = 9218868437227405312 then .infinity (x / 9223372036854775808 % 2 == 1)
    else .nan (x / 9223372036854775808 % 2 == 1) (x % 9223372036854775808 - 9218868437227405312)) := rfl
theorem read_number {x : Nat} (h : x % 9223372036854775808 < 9218868437227405312) : ∃ m p, double.read x = .number (x / 9223372036854775808 % 2 == 1) m p ∧ -1074 ≤ p ∧ m * 2 ^ (p + 1074).toNat = magF (x % 9223372036854775808) := by
  rw [read_double]
  unfold magF
  split
  · exact ⟨_, _, rfl, by omega, by simp⟩
  · exact ⟨_, _, rfl, by omega, by congr 2; omega⟩
theorem cmp_int_mul (a b : Int) (k : Nat) : compare a b = compare (a * 2 ^ k) (b * 2 ^ k) := by
  have hp : (0 : Int) < 2 ^ k := Int.pow_pos (by decide)
  show compareOfLessAndEq a b = compareOfLessAndEq _ _
  unfold compareOfLessAndEq
  have h1 : a < b ↔ a * 2 ^ k < b * 2 ^ k := ⟨fun h => Int.mul_lt_mul_of_pos_right h hp, fun h => Int.lt_of_mul_lt_mul_right h (Int.le_of_lt hp)⟩
  have h2 : a = b ↔ a * 2 ^ k = b * 2 ^ k := ⟨fun h => by rw [h], fun h => Int.eq_of_mul_eq_mul_right (by omega) h⟩
  simp only [h1, h2]
theorem signed_val (s : Bool) (m up : Nat) (k : Nat) : signed s m up * 2 ^ k = if s then -((m * 2 ^ (up + k) : Nat) : Int) else ((m * 2 ^ (up + k) : Nat) : Int) := by
  unfold signed
  rw [Nat.shiftLeft_eq, Nat.pow_add, ← Nat.mul_assoc]
  cases s
  · simp
  · simp [Int.neg_mul]
theorem cmp_int {a b c d : Int} (h1 : a < b ↔ c < d) (h2 : a = b ↔ c = d) : compare a b = compare c d := by
  show compareOfLessAndEq a b = compareOfLessAndEq c d
  unfold compareOfLessAndEq
  simp only [h1, h2]
/-- Two floats that are no NaN stand as their keys do. -/
theorem order_key {x y : Nat} (hx : x % 9223372036854775808 ≤ 9218868437227405312) (hy : y % 9223372036854775808 ≤ 9218868437227405312) : double.order x y = some (compare (keyF x) (keyF y)) := by
  unfold Format.order
  by_cases h1 : x % 9223372036854775808 < 9218868437227405312
  · obtain ⟨m, p, e1, hp, hm⟩ := read_number h1
    by_cases h2 : y % 9223372036854775808 < 9218868437227405312
    · obtain ⟨n, q, e2, hq, hn⟩ := read_number h2
      rw [e1, e2]
      show some (compare _ _) = _
      congr 1
      rw [cmp_int_mul _ _ (min p q + 1074).toNat, signed_val, signed_val]
      have e3 : (p - min p q).toNat + (min p q + 1074).toNat = (p + 1074).toNat := by omega
      have e4 : (q - min p q).toNat + (min p q + 1074).toNat = (q + 1074).toNat := by omega
      rw [e3, e4, hm, hn]
      unfold keyF
      have a1 := @magF_iff (x % 9223372036854775808) (y % 9223372036854775808)
      have a2 := @magF_iff (y % 9223372036854775808) (x % 9223372036854775808)
      have z1 := @magF_iff 0 (x % 9223372036854775808)
      have z2 := @magF_iff 0 (y % 9223372036854775808)
      have z0 : magF 0 = 0 := rfl
      rw [z0] at z1 z2
      generalize magF (x % 9223372036854775808) = M at *
      generalize magF (y % 9223372036854775808) = N at *
      generalize x % 9223372036854775808 = r at *
      generalize y % 9223372036854775808 = s at *
      by_cases s1 : x / 9223372036854775808 % 2 = 1 <;> by_cases s2 : y / 9223372036854775808 % 2 = 1 <;> simp only [s1, s2, beq_self_eq_true, if_true, if_false, beq_iff_eq] <;> apply cmp_int <;> omega
    · have e2 : double.read y = .infinity (y / 9223372036854775808 % 2 == 1) := by rw [read_double, if_neg (by omega), if_neg h2, if_pos (by omega)]
      rw [e1, e2]
      show some (if _ then Ordering.gt else Ordering.lt) = _
      congr 1
      unfold keyF
      have e3 : y % 9223372036854775808 = 9218868437227405312 := by omega
      rw [e3]
      generalize x % 9223372036854775808 = r at *
      by_cases s2 : y / 9223372036854775808 % 2 = 1
      · simp only [s2, beq_self_eq_true, if_true]
        symm
        show compareOfLessAndEq _ _ = _
        unfold compareOfLessAndEq
        rw [if_neg (by split <;> omega), if_neg (by split <;> omega)]
      · have s2' : (y / 9223372036854775808 % 2 == 1) = false := by rw [beq_eq_false_iff_ne]; exact s2
        rw [s2', if_neg s2]
        symm
        show compareOfLessAndEq _ _ = _
        unfold compareOfLessAndEq
        rw [if_pos (by split <;> omega)]
        rfl
  · have e1 : double.read x = .infinity (x / 9223372036854775808 % 2 == 1) := by rw [read_double, if_neg (by omega), if_neg h1, if_pos (by omega)]
    have e3 : x % 9223372036854775808 = 9218868437227405312 := by omega
    by_cases h2 : y % 9223372036854775808 < 9218868437227405312
    · obtain ⟨n, q, e2, hq, hn⟩ := read_number h2
      rw [e1, e2]
      show some (if _ then Ordering.lt else Ordering.gt) = _
      congr 1
      unfold keyF
      rw [e3]
      generalize y % 9223372036854775808 = r at *
      by_cases s2 : x / 9223372036854775808 % 2 = 1
      · simp only [s2, beq_self_eq_true, if_true]
        symm
        show compareOfLessAndEq _ _ = _
        unfold compareOfLessAndEq
        rw [if_pos (by split <;> omega)]
      · have s2' : (x / 9223372036854775808 % 2 == 1) = false := by rw [beq_eq_false_iff_ne]; exact s2
        rw [s2', if_neg s2]
        symm
        show compareOfLessAndEq _ _ = _
        unfold compareOfLessAndEq
        rw [if_neg (by split <;> omega), if_neg (by split <;> omega)]
        rfl
    · have e2 : double.read y = .infinity (y / 9223372036854775808 % 2 == 1) := by rw [read_double, if_neg (by omega), if_neg h2, if_pos (by omega)]
      have e4 : y % 9223372036854775808 = 9218868437227405312 := by omega
      rw [e1, e2]
      show some (compare _ _) = _
      congr 1
      unfold keyF
      rw [e3, e4]
      have b1 : ∀ z : Nat, z / 9223372036854775808 % 2 = 1 ∨ z / 9223372036854775808 % 2 = 0 := fun z => by omega
      rcases b1 x with s1 | s1 <;> rcases b1 y with s2 | s2 <;> rw [s1, s2] <;> decide
theorem order_nan_left {x y : Nat} (hx : 9218868437227405312 < x % 9223372036854775808) : double.order x y = none := by
  unfold Format.order
  rw [read_double x, if_neg (by omega), if_neg (by omega), if_neg (by omega)]
  rfl
theorem order_nan_right {x y : Nat} (hy : 9218868437227405312 < y % 9223372036854775808) : double.order x y = none := by
  unfold Format.order
  rw [read_double y, if_neg (by omega), if_neg (by omega), if_neg (by omega)]
  cases double.read x <;> rfl
end Go.Proofs.YtmlcilalmhpmiaaDoor

/- What wakes reads. -/
namespace Go.Proofs.YtmlcilalmhpmiaaDoor
theorem parse_wakes : parseR ⟨#[50, 46, 53, 101, 45, 49]⟩ = (4598175219545276416, 0) := by kernel_rfl
end Go.Proofs.YtmlcilalmhpmiaaDoor

/- wakes. -/
namespace Go.Proofs.YtmlcilalmhpmiaaDoor
open Go.RowKit Go.Maps

theorem dur_left (k : Nat) (u : List UInt8 × Nat) (h : unitsL[k]? = some u) : (durK 90000 k).2 / u.2 < 100 := by
  have hk : k < 7 := by
    have := (List.getElem?_eq_some_iff.1 h).1
    exact this
  rcases (show k = 0 ∨ k = 1 ∨ k = 2 ∨ k = 3 ∨ k = 4 ∨ k = 5 ∨ k = 6 by omega) with rfl | rfl | rfl | rfl | rfl | rfl | rfl <;> (simp [unitsL] at h; subst h; simp [durK, unitsL, durS])
theorem dur_wakes : (durK 90000 7).1 = [49, 109, 51, 48, 115] := by
  simp [durK, unitsL, durS, Lib.decDigits_one (show 1 < 10 by decide), Lib.decDigits_two (show ¬ 30 < 10 by decide) (show 30 < 100 by decide)]

set_option maxRecDepth 100000 in
theorem wakes_any (w : World) (hU : Units w) : Calls Tryd.prog 13 #[] w fun e w' => e = .returned (.bool true) ∧ Below w.heap.size w w' := by
  have hp := parse_any ⟨#[50, 46, 53, 101, 45, 49]⟩ w (by decide)
  rw [parse_wakes] at hp
  have HT : Hid (∀ W : World, Calls Tryd.prog 11 #[.float .f64 4591870180066957722] W fun e w' => e = .returned (.string ⟨#[48, 46, 49]⟩) ∧ Below W.heap.size W w') := fun W => text_tenth W
  have HD : Hid (∀ W : World, Units W → Calls Tryd.prog 27 #[.int .i64 90000] W fun e w' => e = .returned (.string ⟨#[49, 109, 51, 48, 115]⟩) ∧ Below W.heap.size W w') := fun W h => by
    have h9 := dur_pos 90000 90000 100 W (by decide) h (fun i hi W _ => fu_small i hi W) dur_left (by decide) rfl (by decide) (by decide)
    rw [dur_wakes] at h9
    exact h9
  have heq : FloatKind.f64.format.order 4598175219545276416 4598175219545276416 = some .eq := by kernel_rfl
  have HU : Hid (Units w) := hU
  clear hU
  go_enter Tryd.func13, Tryd.ntmps13
  go_wp2_with (first
    | (go_at_call 14; refine hp.mono ?_; clear hp; rintro e w1 ⟨rfl, hb1⟩; have HB1 : Hid (Below w.heap.size w w1) := hb1; clear hb1)
    | (go_at_call 11; refine (HT.out _).mono ?_; clear HT; rintro e w2 ⟨rfl, hb2⟩; have HB2 : Hid (Below w.heap.size w w2) := HB1.out.trans (hb2.mono HB1.out.size); clear hb2)
    | (go_at_call 27; refine (HD.out _ (HU.out.below HB2.out)).mono ?_; clear HD; rintro e w3 ⟨rfl, hb3⟩; have HB3 : Hid (Below w.heap.size w w3) := HB2.out.trans (hb3.mono HB2.out.size); clear hb3))
  go_ret
  exact ⟨rfl, HB3.out⟩
end Go.Proofs.YtmlcilalmhpmiaaDoor

/- What comes in: numbers; the units and the tables as the program lays them. -/
namespace Go.Proofs.YtmlcilalmhpmiaaDoor
open Go.ChangeShapes Go.WideShapes Go.ChangeAt Go.RowKit
open Go.Deep (open_slice choose_lt)

theorem own : ownKnob Tryd.prog.godebug = none := by kernel_rfl
theorem laidOut : laidOutB Tryd.prog = true := by kernel_rfl
theorem cells3 : Tryd.prog.cellsOf 3 = 1 := by kernel_rfl
theorem cells9 : Tryd.prog.cellsOf 9 = 1 := by kernel_rfl
theorem cellsUn : Tryd.prog.cellsOf 92 = 2 := by kernel_rfl
theorem cellsUs : Tryd.prog.cellsOf 93 = 14 := by kernel_rfl

section
variable {H : Type} {enc : TypeId × Value → H} {w : World}
theorem unit_read {n base : Nat} {sp : Nat → Bool} {held : Bool} {c0 c1 : Value} {nm : List UInt8} {m : Int} {p : List MemPlace} (h : DataW.trod enc Tryd.prog w base sp held n 92 [c0, c1] = some (.agg [.lit (.string nm), .lit (.int .i64 m)], p)) : c0 = .string ⟨nm.toArray⟩ ∧ c1 = .int .i64 m := by
  obtain ⟨xs, k, _, hx, _, hl, hf⟩ := DataW.trod_struct Tryd.underlying92 h
  match xs, hl with
  | [y0, y1], _ =>
    have t0 := hf 0 _ rfl
    have t1 := hf 1 _ rfl
    simp [cells9, cells3] at t0 t1
    obtain ⟨s0, e0, z0, w0⟩ := DataW.trod_string Tryd.underlying9 t0
    obtain ⟨n1, e1, z1, w1⟩ := DataW.trod_int Tryd.underlying3 t1
    simp at e0 e1
    subst e0 e1
    rw [z0, z1] at hx
    simp at hx
    obtain ⟨⟨hs, hn⟩, -⟩ := hx
    refine ⟨?_, by rw [hn]⟩
    rw [hs]
end

theorem list14 {cs : List Value} (h : cs.length = 14) : ∃ c0 c1 c2 c3 c4 c5 c6 c7 c8 c9 c10 c11 c12 c13, cs = [c0, c1, c2, c3, c4, c5, c6, c7, c8, c9, c10, c11, c12, c13] := by
  match cs, h with
  | [c0, c1, c2, c3, c4, c5, c6, c7, c8, c9, c10, c11, c12, c13], _ => exact ⟨c0, c1, c2, c3, c4, c5, c6, c7, c8, c9, c10, c11, c12, c13, rfl⟩
theorem list7 {α : Type} {cs : List α} (h : cs.length = 7) : ∃ c0 c1 c2 c3 c4 c5 c6, cs = [c0, c1, c2, c3, c4, c5, c6] := by
  match cs, h with
  | [c0, c1, c2, c3, c4, c5, c6], _ => exact ⟨c0, c1, c2, c3, c4, c5, c6, rfl⟩
/-- What a row's list gives: the units. -/
theorem laid_units {L : List (String × DataW Unit)} {W : World} (h : laidMet Tryd.prog L W) (hm : ("vigil/num.units", Rows.laid_vigil_num_units) ∈ L) : Units W := by
  have h4 := Lib.laidMet.reads h (n := "vigil/num.units") (d := Rows.laid_vigil_num_units) hm
  obtain ⟨g, t, cs, fuel, p, hg, hty, hvar, hd⟩ := h4
  obtain rfl := Option.some.inj ((show Tryd.prog.globalNamed "vigil/num.units" = some 1 by kernel_rfl).symm.trans hg)
  obtain rfl := Option.some.inj ((show (Tryd.prog.globals[1]?).map (·.type) = some 93 by kernel_rfl).symm.trans hty)
  obtain ⟨xs, m, _, hx, hlen, hl, hf⟩ := DataW.trod_array Tryd.underlying93 hd
  rw [cellsUs] at hlen
  obtain ⟨c0, c1, c2, c3, c4, c5, c6, c7, c8, c9, c10, c11, c12, c13, hcs⟩ := list14 hlen
  obtain ⟨y0, y1, y2, y3, y4, y5, y6, rfl⟩ := list7 hl
  rw [hcs, cellsUn] at hf
  have hz := congrArg Prod.fst hx
  simp [Rows.laid_vigil_num_units] at hz
  obtain ⟨z0, z1, z2, z3, z4, z5, z6⟩ := hz
  obtain ⟨q0, q1⟩ := unit_read (nm := [121]) (m := 31536000000) (p := y0.2) (by have h9 := hf 0 (by decide); have h8 : y0 = (DataW.agg [.lit (.string [121]), .lit (.int .i64 31536000000)], y0.2) := (by rw [z0]); rw [← h8]; exact h9)
  obtain ⟨q2, q3⟩ := unit_read (nm := [119]) (m := 604800000) (p := y1.2) (by have h9 := hf 1 (by decide); have h8 : y1 = (DataW.agg [.lit (.string [119]), .lit (.int .i64 604800000)], y1.2) := (by rw [z1]); rw [← h8]; exact h9)
  obtain ⟨q4, q5⟩ := unit_read (nm := [100]) (m := 86400000) (p := y2.2) (by have h9 := hf 2 (by decide); have h8 : y2 = (DataW.agg [.lit (.string [100]), .lit (.int .i64 86400000)], y2.2) := (by rw [z2]); rw [← h8]; exact h9)
  obtain ⟨q6, q7⟩ := unit_read (nm := [104]) (m := 3600000) (p := y3.2) (by have h9 := hf 3 (by decide); have h8 : y3 = (DataW.agg [.lit (.string [104]), .lit (.int .i64 3600000)], y3.2) := (by rw [z3]); rw [← h8]; exact h9)
  obtain ⟨q8, q9⟩ := unit_read (nm := [109]) (m := 60000) (p := y4.2) (by have h9 := hf 4 (by decide); have h8 : y4 = (DataW.agg [.lit (.string [109]), .lit (.int .i64 60000)], y4.2) := (by rw [z4]); rw [← h8]; exact h9)
  obtain ⟨q10, q11⟩ := unit_read (nm := [115]) (m := 1000) (p := y5.2) (by have h9 := hf 5 (by decide); have h8 : y5 = (DataW.agg [.lit (.string [115]), .lit (.int .i64 1000)], y5.2) := (by rw [z5]); rw [← h8]; exact h9)
  obtain ⟨q12, q13⟩ := unit_read (nm := [109, 115]) (m := 1) (p := y6.2) (by have h9 := hf 6 (by decide); have h8 : y6 = (DataW.agg [.lit (.string [109, 115]), .lit (.int .i64 1)], y6.2) := (by rw [z6]); rw [← h8]; exact h9)
  subst q0 q1 q2 q3 q4 q5 q6 q7 q8 q9 q10 q11 q12 q13
  have hcell : ∀ j, W.cell? ⟨1, j, none⟩ = cs.toList[j]? := fun j => by rw [World.var?_cell hg hvar j, ← Array.getElem?_toList]
  rw [hcs] at hcell
  have hl1 : W.cell? ⟨1, 0, none⟩ = _ := hcell 0
  exact ⟨hcell 0, hcell 1, hcell 2, hcell 3, hcell 4, hcell 5, hcell 6, hcell 7, hcell 8, hcell 9, hcell 10, hcell 11, hcell 12, hcell 13, World.block_lt_of_cell? W _ hl1⟩
theorem laid_of {W : World} (h : laidMetH Tryd.prog Rows.numTextRow.laid W) : Units W := by
  rw [MakeChecks.laidMetH_plain _ _ _ (by kernel_rfl)] at h
  exact laid_units h (.tail _ (.tail _ (.tail _ (.head _))))
theorem u64_came {H : Type} {enc : TypeId × Value → H} {w : World} {n : Int} {d : DataW H} {p : List MemPlace} (h : DataW.Trod enc Tryd.prog w 0 (fun _ => true) true 25 (.int .u64 n) d p) : 0 ≤ n ∧ n ≤ 18446744073709551615 := by
  obtain ⟨fuel, hf⟩ := h
  obtain ⟨m, e, _, hw⟩ := DataW.trod_int Tryd.underlying25 hf
  simp [Value.cells] at e
  subst e
  have e1 : IntKind.u64.min = 0 := by decide
  have e2 : IntKind.u64.max = 18446744073709551615 := by decide
  simp [Lit.wf, e1, e2] at hw
  exact hw
theorem int_came {H : Type} {enc : TypeId × Value → H} {w : World} {n : Int} {d : DataW H} {p : List MemPlace} (h : DataW.Trod enc Tryd.prog w 0 (fun _ => true) true 3 (.int .i64 n) d p) : -9223372036854775808 ≤ n ∧ n ≤ 9223372036854775807 := by
  obtain ⟨fuel, hf⟩ := h
  obtain ⟨m, e, _, hw⟩ := DataW.trod_int Tryd.underlying3 hf
  simp [Value.cells] at e
  subst e
  have e1 : IntKind.i64.min = -9223372036854775808 := by decide
  have e2 : IntKind.i64.max = 9223372036854775807 := by decide
  simp [Lit.wf, e1, e2] at hw
  exact hw
def putC (cs : Array Value) : Obj → Obj
  | .cells _ t frozen => .cells cs t frozen
  | o => o
def lits : DataW Unit → List Value
  | .agg l => l.flatMap fun d => match d with
    | .lit v => [v.toCell]
    | .agg k => k.flatMap fun e => match e with
      | .lit v => [v.toCell]
      | _ => []
    | _ => []
  | _ => []
/-- A world that holds what the row lists. -/
def laidW (w0 : World) : World := { w0 with heap := (((w0.heap.modify 6 (putC (lits Rows.laid_math_bits_deBruijn32tab).toArray)).modify 7 (putC (lits Rows.laid_math_bits_deBruijn64tab).toArray)).modify 4 (putC (lits Rows.laid_internal_strconv_uint64pow10).toArray)).modify 1 (putC (lits Rows.laid_vigil_num_units).toArray) }
end Go.Proofs.YtmlcilalmhpmiaaDoor
