/- Texts that belong together. -/
import Derived.Test.YtfckdleahljdeaaGreatDoorMDh
import Derived.Test.YtfckdleahljdeaaGreatDoorMLl
import Derived.Test.YtfckdleahljdeaaGreatDoorSo
import Derived.Shelf.Strings.BuilderK
import Derived.Lib.ItoaLen
import Derived.WalkKit
import Derived.Test.YtfckdleahljdeaaGreatDoorMDd
import Derived.Laws.Rows
import Derived.Test.YtfckdleahljdeaaGreatDoorML1
/- A float's digits, walked. -/
namespace Go.Proofs.YtfckdleahljdeaaGreatDoor.Nu
open Go.RowKit Go.Maps

theorem floatbits_run (n : Nat) (W : World) : (callFunc 29 #[.float .f64 n]).run Tryz.prog W = .ok (.value (.int .u64 n)) W := by kernel_rfl
theorem and_sign_lo {x : Nat} (h : x < 9223372036854775808) : bits .and .u64 (x : Int) 9223372036854775808 = 0 := by
  have h1 := u64_and_nat x 9223372036854775808 (by omega) (by decide)
  have e : x &&& 9223372036854775808 = 0 := by
    have h3 : x.testBit 63 = false := Nat.testBit_lt_two_pow (by omega)
    apply Nat.eq_of_testBit_eq
    intro i
    rw [Nat.testBit_and, show (9223372036854775808 : Nat) = 2 ^ 63 from rfl, Nat.testBit_two_pow, Nat.zero_testBit]
    by_cases hi : 63 = i
    · subst hi; rw [h3]; rfl
    · simp [hi]
  rw [e] at h1
  exact h1
theorem and_sign_hi {x r : Nat} (hx : x = r + 9223372036854775808) (h : r < 9223372036854775808) : bits .and .u64 (x : Int) 9223372036854775808 = 9223372036854775808 := by
  have h1 := u64_and_nat x 9223372036854775808 (by omega) (by decide)
  have e : x &&& 9223372036854775808 = 9223372036854775808 := by
    have h3 : x.testBit 63 = true := by rw [Nat.testBit_eq_decide_div_mod_eq]; simp; omega
    apply Nat.eq_of_testBit_eq
    intro i
    rw [Nat.testBit_and, show (9223372036854775808 : Nat) = 2 ^ 63 from rfl, Nat.testBit_two_pow]
    by_cases hi : 63 = i
    · subst hi; rw [h3]; rfl
    · simp [hi]
  rw [e] at h1
  exact h1
theorem andnot_sign {x : Nat} (hx : x < 18446744073709551616) : bits .andNot .u64 (x : Int) 9223372036854775808 = ((x % 9223372036854775808 : Nat) : Int) := by
  have h1 := u64_andNot_nat x 9223372036854775808 hx (by decide)
  have e : x &&& (18446744073709551615 - 9223372036854775808) = x % 9223372036854775808 := Nat.and_two_pow_sub_one_eq_mod x 63
  rw [e] at h1
  exact h1
def dgR (raw : Nat) : List UInt8 × Int := if raw = 0 ∨ 9218868437227405312 ≤ raw then ([], 0) else digR raw
theorem Nats.base {w : World} {base base' : Nat} {v1 v2 v3 v4 : Value} {V Bl A W : Nat} (h : Nats w base v1 v2 v3 v4 V Bl A W) (hb : base' ≤ base) : Nats w base' v1 v2 v3 v4 V Bl A W :=
  ⟨h.b1.base hb, h.b2.base hb, h.b3.base hb, h.b4.base hb, h.a12, h.a13, h.a14, h.a23, h.a24, h.a34⟩
theorem ret_sib {a b : List UInt8} {c d : Int} {n : Bool} (h1 : a = b) (h2 : c = d) : Ending.returned (.tuple #[.string ⟨a.toArray⟩, .int .i64 c, .bool n]) = .returned (.tuple #[.string ⟨b.toArray⟩, .int .i64 d, .bool n]) := by rw [h1, h2]

theorem head_cell {w : World} {base g c : Nat} {l : List UInt8} (h : w.ownsRow base 5 1 (.slice (some ⟨g, 0, none⟩) l.length c) l.length (u8s l)) (h0 : 0 < l.length) : w.cell? ⟨g, 0, none⟩ = some (.int .u8 ((l.headD 0).toNat : Nat)) := by
  cases l with
  | nil => simp at h0
  | cons d t =>
    have h9 := h.cells (g := g) rfl 0 (.int .u8 d.toNat) (by simp [u8s])
    rw [Addr.add_lit] at h9
    exact h9

theorem conv_row {w : World} {base g c : Nat} {l : List UInt8} (h : w.ownsRow base 5 1 (.slice (some ⟨g, 0, none⟩) l.length c) l.length (u8s l)) : (convert 23 9 (.slice (some ⟨g, 0, none⟩) l.length c)).run Tryz.prog w = .ok (.string ⟨l.toArray⟩) w := by
  refine run_convert_bytes_back (P := Tryz.prog) w 23 9 5 ⟨g, 0, none⟩ c l Tryz.underlying23 Tryz.underlying5 Tryz.underlying9 (fun j hj => ?_)
  have h9 := h.cells (g := g) rfl j (.int .u8 l[j].toNat) (by simp [u8s, hj])
  exact h9

end Go.Proofs.YtfckdleahljdeaaGreatDoor.Nu

/- The text of 0.1. -/
namespace Go.Proofs.YtfckdleahljdeaaGreatDoor.Nu
open Go.RowKit Go.Maps

theorem dig_tenth : dgR 4591870180066957722 = ([49], 0) := by kernel_rfl

end Go.Proofs.YtfckdleahljdeaaGreatDoor.Nu

/- A Builder. -/
namespace Go.Proofs.YtfckdleahljdeaaGreatDoor.Nu
open Go.RowKit Go.Maps

/-- A Builder that holds these bytes. -/
def Bd (B b : Nat) (bs : List UInt8) (w : World) : Prop := Lib.IsBuilderF 67 5 B b (Lib.byteCells bs) w
/-- What its methods leave as it was. -/
structure BK (B b : Nat) (w w' : World) : Prop where
  below : Below B w w'
  others : Lib.OthersKept 5 (some b) w w'
theorem BK.refl (B b : Nat) (w : World) : BK B b w w := ⟨Below.refl _ _, Lib.OthersKept.refl _ _ _⟩
theorem BK.trans {B b : Nat} {x y z : World} (h : BK B b x y) (k : BK B b y z) : BK B b x z := ⟨h.below.trans k.below, h.others.trans k.others⟩

theorem byteCells_append (a b : List UInt8) : Lib.byteCells (a ++ b) = Lib.byteCells a ++ Lib.byteCells b := by simp [Lib.byteCells]

theorem wb_any (B b : Nat) (bs : List UInt8) (c : UInt8) (w : World) (h : Bd B b bs w) (hl : bs.length ≤ 1000000000) (hB : B ≤ w.heap.size) :
    Calls Tryz.prog 30 #[.pointer (some ⟨b, 0, none⟩), .int .u8 c.toNat] w fun e w' => e = .returned .nilIface ∧ Bd B b (bs ++ [c]) w' ∧ BK B b w w' := by
  refine (Any.Builder_WriteByte_k Tryz.lays167 Tryz.Builder_Extra_167 B b (Lib.byteCells bs) c.toNat w h (by rw [Lib.byteCells_length]; omega) hB).mono ?_
  rintro e w' ⟨he, h1, h2, h3⟩
  refine ⟨he, Or.inr ?_, h2, h3⟩
  rw [byteCells_append]
  exact h1
theorem ws_any (B b : Nat) (bs : List UInt8) (s : ByteArray) (w : World) (h : Bd B b bs w) (hl : bs.length ≤ 1000000000) (hs : s.size ≤ 1000000000) (hB : B ≤ w.heap.size) :
    Calls Tryz.prog 31 #[.pointer (some ⟨b, 0, none⟩), .string s] w fun e w' => e = .returned (.tuple #[.int .i64 s.size, .nilIface]) ∧ Bd B b (bs ++ s.data.toList) w' ∧ BK B b w w' := by
  refine (Any.Builder_WriteString_k Tryz.lays166 Tryz.Builder_Extra_166 B b (Lib.byteCells bs) s w h (by rw [Lib.byteCells_length]; omega) hB).mono ?_
  rintro e w' ⟨he, h1, h2, h3⟩
  refine ⟨he, Or.inr ?_, h2, h3⟩
  rw [byteCells_append]
  exact h1

theorem wb_lit (B b : Nat) (bs : List UInt8) (c : UInt8) (n : Int) (hn : (c.toNat : Int) = n) (w : World) (h : Bd B b bs w) (hl : bs.length ≤ 1000000000) (hB : B ≤ w.heap.size) :
    Calls Tryz.prog 30 #[.pointer (some ⟨b, 0, none⟩), .int .u8 n] w fun e w' => e = .returned .nilIface ∧ Bd B b (bs ++ [c]) w' ∧ BK B b w w' := by
  subst hn
  exact wb_any B b bs c w h hl hB

end Go.Proofs.YtfckdleahljdeaaGreatDoor.Nu

/- Durations as texts. -/
namespace Go.Proofs.YtfckdleahljdeaaGreatDoor.Nu
open Go.RowKit Go.Maps

/-- The units of durations, as the program lays them. -/
def unitsL : List (List UInt8 × Nat) := [([121], 31536000000), ([119], 604800000), ([100], 86400000), ([104], 3600000), ([109], 60000), ([115], 1000), ([109, 115], 1)]
def Units (w : World) : Prop := w.cell? ⟨1, 0, none⟩ = some (.string ⟨#[121]⟩) ∧ w.cell? ⟨1, 1, none⟩ = some (.int .i64 31536000000) ∧ w.cell? ⟨1, 2, none⟩ = some (.string ⟨#[119]⟩) ∧ w.cell? ⟨1, 3, none⟩ = some (.int .i64 604800000) ∧ w.cell? ⟨1, 4, none⟩ = some (.string ⟨#[100]⟩) ∧ w.cell? ⟨1, 5, none⟩ = some (.int .i64 86400000) ∧ w.cell? ⟨1, 6, none⟩ = some (.string ⟨#[104]⟩) ∧ w.cell? ⟨1, 7, none⟩ = some (.int .i64 3600000) ∧ w.cell? ⟨1, 8, none⟩ = some (.string ⟨#[109]⟩) ∧ w.cell? ⟨1, 9, none⟩ = some (.int .i64 60000) ∧ w.cell? ⟨1, 10, none⟩ = some (.string ⟨#[115]⟩) ∧ w.cell? ⟨1, 11, none⟩ = some (.int .i64 1000) ∧ w.cell? ⟨1, 12, none⟩ = some (.string ⟨#[109, 115]⟩) ∧ w.cell? ⟨1, 13, none⟩ = some (.int .i64 1) ∧ 1 < w.heap.size
theorem Units.below {w w' : World} (h : Units w) (hb : Below w.heap.size w w') : Units w' := by
  have hs := hb.size
  obtain ⟨h0, h1, h2, h3, h4, h5, h6, h7, h8, h9, h10, h11, h12, h13, hl⟩ := h
  exact ⟨(hb.cell (p := ⟨1, 0, none⟩) hl).trans h0, (hb.cell (p := ⟨1, 1, none⟩) hl).trans h1, (hb.cell (p := ⟨1, 2, none⟩) hl).trans h2, (hb.cell (p := ⟨1, 3, none⟩) hl).trans h3, (hb.cell (p := ⟨1, 4, none⟩) hl).trans h4, (hb.cell (p := ⟨1, 5, none⟩) hl).trans h5, (hb.cell (p := ⟨1, 6, none⟩) hl).trans h6, (hb.cell (p := ⟨1, 7, none⟩) hl).trans h7, (hb.cell (p := ⟨1, 8, none⟩) hl).trans h8, (hb.cell (p := ⟨1, 9, none⟩) hl).trans h9, (hb.cell (p := ⟨1, 10, none⟩) hl).trans h10, (hb.cell (p := ⟨1, 11, none⟩) hl).trans h11, (hb.cell (p := ⟨1, 12, none⟩) hl).trans h12, (hb.cell (p := ⟨1, 13, none⟩) hl).trans h13, by omega⟩
/-- The parts of a duration, the first ones. -/
def durS (u : List UInt8 × Nat) (s : List UInt8 × Nat) : List UInt8 × Nat := (s.1 ++ (if 0 < s.2 / u.2 then Lib.decDigits (s.2 / u.2) ++ u.1 else []), s.2 % u.2)
def durK (n : Nat) (k : Nat) : List UInt8 × Nat := (unitsL.take k).foldl (fun s u => durS u s) ([], n)
theorem durK_succ (n k : Nat) (hk : k < 7) (u : List UInt8 × Nat) (hu : unitsL[k]? = some u) : durK n (k + 1) = durS u (durK n k) := by
  unfold durK
  have h1 : k < unitsL.length := hk
  rw [List.take_succ_eq_append_getElem h1, List.foldl_append]
  have h2 : unitsL[k] = u := by
    rw [List.getElem?_eq_getElem h1] at hu
    exact Option.some.inj hu
  rw [h2]
  rfl
end Go.Proofs.YtfckdleahljdeaaGreatDoor.Nu

/- Durations as texts, walked. -/
namespace Go.Proofs.YtfckdleahljdeaaGreatDoor.Nu
open Go.RowKit Go.Maps

theorem Bd.block {B b : Nat} {bs : List UInt8} {W : World} (h : Bd B b bs W) : ∃ c, W.heap[b]? = some (.cells c 67 (0, 0)) := by
  rcases h with ⟨_, v, h2, _⟩ | ⟨_, v, h2, _⟩
  · exact ⟨_, h2⟩
  · exact ⟨_, h2⟩
/-- A new Builder. -/
theorem Bd.fresh (w : World) : Bd w.heap.size w.heap.size [] (w.alloc (.cells #[.pointer none, .slice none 0 0] 67 (0, 0))) :=
  Or.inl ⟨Nat.le_refl _, .slice none 0 0, heap_alloc_new w _, ⟨rfl, Or.inl ⟨rfl, rfl⟩⟩, by simp [Value.ownBlock]⟩
theorem Bd.below {B b : Nat} {bs : List UInt8} {W W' : World} (h : Bd B b bs W) (hb : Below W.heap.size W W') : Bd B b bs W' := by
  have key : ∀ p, Lib.BuilderAtF 67 5 B b p (Lib.byteCells bs) W → Lib.BuilderAtF 67 5 B b p (Lib.byteCells bs) W' := fun p hp => by
    obtain ⟨h1, v, h2, h3, h4⟩ := hp
    refine ⟨h1, v, (hb.block b (Array.getElem?_eq_some_iff.1 h2).1).trans h2, ⟨h3.1, ?_⟩, h4⟩
    rcases h3.2 with h5 | ⟨g, cap, cur, fz, e1, e2, e3, e4⟩
    · exact Or.inl h5
    · exact Or.inr ⟨g, cap, cur, fz, e1, e2, (hb.block g (Array.getElem?_eq_some_iff.1 e3).1).trans e3, e4⟩
  exact h.elim (fun x => Or.inl (key _ x)) (fun x => Or.inr (key _ x))

theorem dec_len (n : Nat) (h : n < 18446744073709551616) : (Lib.decDigits n).length ≤ 20 := by
  rw [Lib.decDigits_length]
  exact Lib.nDigits_le20 n h

end Go.Proofs.YtfckdleahljdeaaGreatDoor.Nu

/- Floats stand in the order of their bits. -/
namespace Go.Proofs.YtfckdleahljdeaaGreatDoor.Nu
open Ieee

/-- A float's size without its sign, counted in the least floats. -/
def magF (r : Nat) : Nat := if r < 4503599627370496 then r else (4503599627370496 + r % 4503599627370496) * 2 ^ (r / 4503599627370496 - 1)
theorem magF_succ (r : Nat) : magF r < magF (r + 1) := by
  unfold magF
  by_cases h : r + 1 < 4503599627370496
  · rw [if_pos h, if_pos (by omega)]; omega
  · rw [if_neg h]
    by_cases h2 : r < 4503599627370496
    · rw [if_pos h2]
      obtain rfl : r = 4503599627370495 := by omega
      decide
    · rw [if_neg h2]
      have hp : 0 < 2 ^ (r / 4503599627370496 - 1) := Nat.pow_pos (by decide)
      by_cases h3 : (r + 1) / 4503599627370496 = r / 4503599627370496
      · rw [h3]
        exact Nat.mul_lt_mul_of_pos_right (by omega) hp
      · have h4 : (r + 1) / 4503599627370496 = r / 4503599627370496 + 1 := by omega
        have h5 : (r + 1) % 4503599627370496 = 0 := by omega
        have h6 : r % 4503599627370496 = 4503599627370495 := by omega
        have h7 : (r + 1) / 4503599627370496 - 1 = (r / 4503599627370496 - 1) + 1 := by omega
        rw [h7, h5, h6, Nat.pow_succ]
        generalize 2 ^ (r / 4503599627370496 - 1) = P at *
        omega
theorem magF_lt {r s : Nat} (h : r < s) : magF r < magF s := by
  obtain ⟨k, rfl⟩ : ∃ k, s = r + 1 + k := ⟨s - (r + 1), by omega⟩
  clear h
  induction k with
  | zero => exact magF_succ r
  | succ k ih => exact Nat.lt_trans ih (magF_succ _)
theorem magF_iff {r s : Nat} : magF r < magF s ↔ r < s := by
  constructor
  · intro h
    rcases Nat.lt_or_ge r s with h1 | h1
    · exact h1
    · rcases Nat.lt_or_ge s r with h2 | h2
      · have := magF_lt h2; omega
      · have : r = s := by omega
        subst this; omega
  · exact magF_lt
def keyF (x : Nat) : Int := if x / 9223372036854775808 % 2 = 1 then -((x % 9223372036854775808 : Nat) : Int) else ((x % 9223372036854775808 : Nat) : Int)
theorem read_double (x : Nat) : double.read x = (if x % 9223372036854775808 < 4503599627370496 then .number (x / 9223372036854775808 % 2 == 1) (x % 9223372036854775808) (-1074)
    else if x % 9223372036854775808 < 9218868437227405312 then .number (x / 9223372036854775808 % 2 == 1) (4503599627370496 + x % 9223372036854775808 % 4503599627370496) (-1074 + (x % 9223372036854775808 / 4503599627370496 - 1 : Nat))
    else if x % 9223372036854775808 = 9218868437227405312 then .infinity (x / 9223372036854775808 % 2 == 1)
    else .nan (x / 9223372036854775808 % 2 == 1) (x % 9223372036854775808 - 9218868437227405312)) := rfl
theorem read_number {x : Nat} (h : x % 9223372036854775808 < 9218868437227405312) : ∃ m p, double.read x = .number (x / 9223372036854775808 % 2 == 1) m p ∧ -1074 ≤ p ∧ m * 2 ^ (p + 1074).toNat = magF (x % 9223372036854775808) := by
  rw [read_double]
  unfold magF
  split
  · exact ⟨_, _, rfl, by omega, by simp⟩
  · exact ⟨_, _, rfl, by omega, by congr 2; omega⟩
theorem cmp_int_mul (a b : Int) (k : Nat) : compare a b = compare (a * 2 ^ k) (b * 2 ^ k) := by
  have hp : (0 : Int) < 2 ^ k := Int.pow_pos (by decide)
  show compareOfLessAndEq a b = compareOfLessAndEq _ _
  unfold compareOfLessAndEq
  have h1 : a < b ↔ a * 2 ^ k < b * 2 ^ k := ⟨fun h => Int.mul_lt_mul_of_pos_right h hp, fun h => Int.lt_of_mul_lt_mul_right h (Int.le_of_lt hp)⟩
  have h2 : a = b ↔ a * 2 ^ k = b * 2 ^ k := ⟨fun h => by rw [h], fun h => Int.eq_of_mul_eq_mul_right (by omega) h⟩
  simp only [h1, h2]
theorem signed_val (s : Bool) (m up : Nat) (k : Nat) : signed s m up * 2 ^ k = if s then -((m * 2 ^ (up + k) : Nat) : Int) else ((m * 2 ^ (up + k) : Nat) : Int) := by
  unfold signed
  rw [Nat.shiftLeft_eq, Nat.pow_add, ← Nat.mul_assoc]
  cases s
  · simp
  · simp [Int.neg_mul]
theorem cmp_int {a b c d : Int} (h1 : a < b ↔ c < d) (h2 : a = b ↔ c = d) : compare a b = compare c d := by
  show compareOfLessAndEq a b = compareOfLessAndEq c d
  unfold compareOfLessAndEq
  simp only [h1, h2]
/-- Two floats that are no NaN stand as their keys do. -/
theorem order_key {x y : Nat} (hx : x % 9223372036854775808 ≤ 9218868437227405312) (hy : y % 9223372036854775808 ≤ 9218868437227405312) : double.order x y = some (compare (keyF x) (keyF y)) := by
  unfold Format.order
  by_cases h1 : x % 9223372036854775808 < 9218868437227405312
  · obtain ⟨m, p, e1, hp, hm⟩ := read_number h1
    by_cases h2 : y % 9223372036854775808 < 9218868437227405312
    · obtain ⟨n, q, e2, hq, hn⟩ := read_number h2
      rw [e1, e2]
      show some (compare _ _) = _
      congr 1
      rw [cmp_int_mul _ _ (min p q + 1074).toNat, signed_val, signed_val]
      have e3 : (p - min p q).toNat + (min p q + 1074).toNat = (p + 1074).toNat := by omega
      have e4 : (q - min p q).toNat + (min p q + 1074).toNat = (q + 1074).toNat := by omega
      rw [e3, e4, hm, hn]
      unfold keyF
      have a1 := @magF_iff (x % 9223372036854775808) (y % 9223372036854775808)
      have a2 := @magF_iff (y % 9223372036854775808) (x % 9223372036854775808)
      have z1 := @magF_iff 0 (x % 9223372036854775808)
      have z2 := @magF_iff 0 (y % 9223372036854775808)
      have z0 : magF 0 = 0 := rfl
      rw [z0] at z1 z2
      generalize magF (x % 9223372036854775808) = M at *
      generalize magF (y % 9223372036854775808) = N at *
      generalize x % 9223372036854775808 = r at *
      generalize y % 9223372036854775808 = s at *
      by_cases s1 : x / 9223372036854775808 % 2 = 1 <;> by_cases s2 : y / 9223372036854775808 % 2 = 1 <;> simp only [s1, s2, beq_self_eq_true, if_true, if_false, beq_iff_eq] <;> apply cmp_int <;> omega
    · have e2 : double.read y = .infinity (y / 9223372036854775808 % 2 == 1) := by rw [read_double, if_neg (by omega), if_neg h2, if_pos (by omega)]
      rw [e1, e2]
      show some (if _ then Ordering.gt else Ordering.lt) = _
      congr 1
      unfold keyF
      have e3 : y % 9223372036854775808 = 9218868437227405312 := by omega
      rw [e3]
      generalize x % 9223372036854775808 = r at *
      by_cases s2 : y / 9223372036854775808 % 2 = 1
      · simp only [s2, beq_self_eq_true, if_true]
        symm
        show compareOfLessAndEq _ _ = _
        unfold compareOfLessAndEq
        rw [if_neg (by split <;> omega), if_neg (by split <;> omega)]
      · have s2' : (y / 9223372036854775808 % 2 == 1) = false := by rw [beq_eq_false_iff_ne]; exact s2
        rw [s2', if_neg s2]
        symm
        show compareOfLessAndEq _ _ = _
        unfold compareOfLessAndEq
        rw [if_pos (by split <;> omega)]
        rfl
  · have e1 : double.read x = .infinity (x / 9223372036854775808 % 2 == 1) := by rw [read_double, if_neg (by omega), if_neg h1, if_pos (by omega)]
    have e3 : x % 9223372036854775808 = 9218868437227405312 := by omega
    by_cases h2 : y % 9223372036854775808 < 9218868437227405312
    · obtain ⟨n, q, e2, hq, hn⟩ := read_number h2
      rw [e1, e2]
      show some (if _ then Ordering.lt else Ordering.gt) = _
      congr 1
      unfold keyF
      rw [e3]
      generalize y % 9223372036854775808 = r at *
      by_cases s2 : x / 9223372036854775808 % 2 = 1
      · simp only [s2, beq_self_eq_true, if_true]
        symm
        show compareOfLessAndEq _ _ = _
        unfold compareOfLessAndEq
        rw [if_pos (by split <;> omega)]
      · have s2' : (x / 9223372036854775808 % 2 == 1) = false := by rw [beq_eq_false_iff_ne]; exact s2
        rw [s2', if_neg s2]
        symm
        show compareOfLessAndEq _ _ = _
        unfold compareOfLessAndEq
        rw [if_neg (by split <;> omega), if_neg (by split <;> omega)]
        rfl
    · have e2 : double.read y = .infinity (y / 9223372036854775808 % 2 == 1) := by rw [read_double, if_neg (by omega), if_neg h2, if_pos (by omega)]
      have e4 : y % 9223372036854775808 = 9218868437227405312 := by omega
      rw [e1, e2]
      show some (compare _ _) = _
      congr 1
      unfold keyF
      rw [e3, e4]
      have b1 : ∀ z : Nat, z / 9223372036854775808 % 2 = 1 ∨ z / 9223372036854775808 % 2 = 0 := fun z => by omega
      rcases b1 x with s1 | s1 <;> rcases b1 y with s2 | s2 <;> rw [s1, s2] <;> decide
theorem order_nan_left {x y : Nat} (hx : 9218868437227405312 < x % 9223372036854775808) : double.order x y = none := by
  unfold Format.order
  rw [read_double x, if_neg (by omega), if_neg (by omega), if_neg (by omega)]
  rfl
theorem order_nan_right {x y : Nat} (hy : 9218868437227405312 < y % 9223372036854775808) : double.order x y = none := by
  unfold Format.order
  rw [read_double y, if_neg (by omega), if_neg (by omega), if_neg (by omega)]
  cases double.read x <;> rfl
end Go.Proofs.YtfckdleahljdeaaGreatDoor.Nu

/- What wakes reads. -/
namespace Go.Proofs.YtfckdleahljdeaaGreatDoor.Nu
theorem parse_wakes : parseR ⟨#[50, 46, 53, 101, 45, 49]⟩ = (4598175219545276416, 0) := by kernel_rfl
end Go.Proofs.YtfckdleahljdeaaGreatDoor.Nu

/- Nothing: what seats without the durations need not. -/

/- Bits, and a float beside itself. -/
namespace Go.Proofs.YtfckdleahljdeaaGreatDoor.Nu
open Go.RowKit Go.Maps

theorem keepBits_any (x y : Nat) (w : World) :
    Calls Tryz.prog 14 #[.float .f64 x, .float .f64 y] w fun e w' => e = .returned (.bool (decide (x = y))) ∧ w' = w := by
  have hfb := floatbits_run
  have HE : Hid (((x : Int) == (y : Int)) = decide (x = y)) := by
    show _ = _
    by_cases h : x = y
    · subst h; simp
    · simp [h]; omega
  go_enter Tryz.func14, Tryz.ntmps14
  go_wp2
  go_ret
  exact ⟨by rw [← HE.out]; rfl, rfl⟩
theorem order_self {x : Nat} (h : x % 9223372036854775808 ≤ 9218868437227405312) : FloatKind.f64.format.order x x = some .eq := by
  have h1 := order_key h h
  have h2 : compare (keyF x) (keyF x) = Ordering.eq := by
    show compareOfLessAndEq _ _ = _
    unfold compareOfLessAndEq
    simp
  rw [h2] at h1
  exact h1

end Go.Proofs.YtfckdleahljdeaaGreatDoor.Nu

/- How a sample's line is gone through: blanks, names, quoted values: pure. -/
namespace Go.Proofs.YtfckdleahljdeaaGreatDoor

def blB (c : UInt8) : Bool := c == 32 || c == 9
def letB (c : UInt8) : Bool := (97 ≤ c && c ≤ 122) || (65 ≤ c && c ≤ 90) || c == 95
def digB (c : UInt8) : Bool := 48 ≤ c && c ≤ 57

/-- The place behind a run of bytes of a kind. -/
def runP (p : UInt8 → Bool) (l : List UInt8) (i : Nat) : Nat := i + ((l.drop i).takeWhile p).length
theorem runP_step {p : UInt8 → Bool} {l : List UInt8} {i : Nat} (h : i < l.length) (hp : p l[i] = true) : runP p l (i + 1) = runP p l i := by
  unfold runP
  rw [List.drop_eq_getElem_cons h, List.takeWhile_cons, if_pos hp]
  simp
  omega
theorem runP_stop {p : UInt8 → Bool} {l : List UInt8} {i : Nat} (h : i < l.length) (hp : p l[i] = false) : runP p l i = i := by
  unfold runP
  rw [List.drop_eq_getElem_cons h, List.takeWhile_cons, if_neg (by rw [hp]; simp)]
  simp
theorem runP_end {p : UInt8 → Bool} {l : List UInt8} {i : Nat} (h : l.length ≤ i) : runP p l i = i := by
  unfold runP
  rw [List.drop_eq_nil_of_le h]
  simp
theorem runP_ge (p : UInt8 → Bool) (l : List UInt8) (i : Nat) : i ≤ runP p l i := Nat.le_add_right _ _
theorem runP_le {p : UInt8 → Bool} {l : List UInt8} {i : Nat} (h : i ≤ l.length) : runP p l i ≤ l.length := by
  unfold runP
  have h1 : ((l.drop i).takeWhile p).length ≤ (l.drop i).length := (List.takeWhile_sublist p).length_le
  rw [List.length_drop] at h1
  omega
theorem runP_not {p : UInt8 → Bool} {l : List UInt8} {i : Nat} (h : runP p l i < l.length) : p l[runP p l i] = false := by
  cases hp : p l[runP p l i] with
  | false => rfl
  | true =>
    exfalso
    have h1 := runP_step h hp
    have h2 : ∀ n i : Nat, l.length - i ≤ n → runP p l (runP p l i) = runP p l i := by
      intro n
      induction n with
      | zero => intro i hi; have := runP_end (p := p) (l := l) (i := i) (by omega); rw [this, this]
      | succ n ih =>
        intro i hi
        by_cases hl : i < l.length
        · cases hq : p l[i] with
          | false => have := runP_stop hl hq; rw [this, this]
          | true => have := runP_step hl hq; rw [← this]; exact ih (i + 1) (by omega)
        · have := runP_end (p := p) (l := l) (i := i) (by omega); rw [this, this]
    have h3 := h2 _ i (Nat.le_refl _)
    have h4 := runP_ge p l (runP p l i + 1)
    omega

def skipP (l : List UInt8) (i : Nat) : Nat := runP blB l i
def tokP (l : List UInt8) (i : Nat) : Nat := runP (fun c => !blB c) l i
def restB (co : Bool) (c : UInt8) : Bool := letB c || (c == 58 && co) || digB c
def startB (co : Bool) (c : UInt8) : Bool := letB c || (c == 58 && co)
/-- The place behind a name; the place itself, if none stands there. -/
def wordP (co : Bool) (l : List UInt8) (i : Nat) : Nat := if ((l[i]?).map (startB co)).getD false = true then runP (restB co) l i else i
theorem wordP_end {co : Bool} {l : List UInt8} {i : Nat} (h : l.length ≤ i) : wordP co l i = i := by
  unfold wordP
  rw [List.getElem?_eq_none h]
  rfl
theorem wordP_none {co : Bool} {l : List UInt8} {i : Nat} (h : i < l.length) (hs : startB co l[i] = false) : wordP co l i = i := by
  unfold wordP
  rw [List.getElem?_eq_getElem h, Option.map_some, Option.getD_some, if_neg (by rw [hs]; simp)]
theorem wordP_some {co : Bool} {l : List UInt8} {i : Nat} (h : i < l.length) (hs : startB co l[i] = true) : wordP co l i = runP (restB co) l (i + 1) := by
  unfold wordP
  rw [List.getElem?_eq_getElem h, Option.map_some, Option.getD_some, if_pos hs]
  refine (runP_step h ?_).symm
  unfold restB
  unfold startB at hs
  rw [hs]
  rfl
theorem wordP_ge (co : Bool) (l : List UInt8) (i : Nat) : i ≤ wordP co l i := by
  unfold wordP
  split
  · exact runP_ge _ _ _
  · exact Nat.le_refl _
theorem wordP_le {co : Bool} {l : List UInt8} {i : Nat} (h : i ≤ l.length) : wordP co l i ≤ l.length := by
  unfold wordP
  split
  · exact runP_le h
  · exact h
theorem skipP_ge (l : List UInt8) (i : Nat) : i ≤ skipP l i := runP_ge _ _ _
theorem skipP_le {l : List UInt8} {i : Nat} (h : i ≤ l.length) : skipP l i ≤ l.length := runP_le h
theorem tokP_ge (l : List UInt8) (i : Nat) : i ≤ tokP l i := runP_ge _ _ _
theorem tokP_le {l : List UInt8} {i : Nat} (h : i ≤ l.length) : tokP l i ≤ l.length := runP_le h

/-- What stands behind an opening quote, up to its end: where it is refused, or the bytes and the place behind. -/
def quotP : List UInt8 → Nat → List UInt8 → Nat ⊕ (List UInt8 × Nat)
  | [], p, _ => .inl p
  | c :: r, p, acc =>
    if c = 34 then .inr (acc, p + 1)
    else if c = 92 then
      match r with
      | [] => .inl (p + 1)
      | d :: r => if d = 92 ∨ d = 34 then quotP r (p + 2) (acc ++ [d]) else if d = 110 then quotP r (p + 2) (acc ++ [10]) else .inl (p + 1)
    else quotP r (p + 1) (acc ++ [c])

theorem quotP_place : ∀ (n : Nat) (l : List UInt8) (p : Nat) (acc : List UInt8), l.length ≤ n → (∀ q, quotP l p acc = .inl q → p ≤ q ∧ q ≤ p + l.length) ∧ (∀ v q, quotP l p acc = .inr (v, q) → p < q ∧ q ≤ p + l.length ∧ v.length + p < q + acc.length) := by
  intro n
  induction n with
  | zero =>
    intro l p acc hl
    obtain rfl : l = [] := List.eq_nil_of_length_eq_zero (by omega)
    refine ⟨fun q h => ?_, fun v q h => ?_⟩
    · simp [quotP] at h; simp [h]
    · simp [quotP] at h
  | succ n ih =>
    intro l p acc hl
    match l with
    | [] =>
      refine ⟨fun q h => ?_, fun v q h => ?_⟩
      · simp [quotP] at h; simp [h]
      · simp [quotP] at h
    | c :: r =>
      rw [quotP.eq_def]
      dsimp only
      simp only [List.length_cons] at hl
      by_cases h1 : c = 34
      · rw [if_pos h1]
        refine ⟨fun q h => (by cases h), fun v q h => ?_⟩
        simp at h
        obtain ⟨rfl, rfl⟩ := h
        simp
        omega
      · rw [if_neg h1]
        by_cases h2 : c = 92
        · rw [if_pos h2]
          match r with
          | [] =>
            refine ⟨fun q h => ?_, fun v q h => (by cases h)⟩
            simp at h
            subst h
            simp
          | d :: r =>
            simp only [List.length_cons] at hl
            dsimp only
            by_cases h3 : d = 92 ∨ d = 34
            · rw [if_pos h3]
              obtain ⟨i1, i2⟩ := ih r (p + 2) (acc ++ [d]) (by omega)
              refine ⟨fun q h => ?_, fun v q h => ?_⟩
              · have := i1 q h; simp only [List.length_cons]; omega
              · have := i2 v q h; simp only [List.length_cons, List.length_append, List.length_nil] at this ⊢; omega
            · rw [if_neg h3]
              by_cases h4 : d = 110
              · rw [if_pos h4]
                obtain ⟨i1, i2⟩ := ih r (p + 2) (acc ++ [10]) (by omega)
                refine ⟨fun q h => ?_, fun v q h => ?_⟩
                · have := i1 q h; simp only [List.length_cons]; omega
                · have := i2 v q h; simp only [List.length_cons, List.length_append, List.length_nil] at this ⊢; omega
              · rw [if_neg h4]
                refine ⟨fun q h => ?_, fun v q h => (by cases h)⟩
                simp at h
                subst h
                simp only [List.length_cons]
                omega
        · rw [if_neg h2]
          obtain ⟨i1, i2⟩ := ih r (p + 1) (acc ++ [c]) (by omega)
          refine ⟨fun q h => ?_, fun v q h => ?_⟩
          · have := i1 q h; simp only [List.length_cons]; omega
          · have := i2 v q h; simp only [List.length_cons, List.length_append, List.length_nil] at this ⊢; omega
end Go.Proofs.YtfckdleahljdeaaGreatDoor

/- Blocks that may have turned, said by a predicate. -/
namespace Go.Proofs.YtfckdleahljdeaaGreatDoor
open Go.RowKit Go.Maps

/-- Blocks outside O are as they were. -/
structure Kept (O : Nat → Prop) (w w' : World) : Prop where
  os : w'.os = w.os
  tape : w'.tape = w.tape
  output : w'.output = w.output
  size : w.heap.size ≤ w'.heap.size
  block : ∀ k, k < w.heap.size → ¬ O k → w'.heap[k]? = w.heap[k]?

theorem Kept.refl (O : Nat → Prop) (w : World) : Kept O w w := ⟨rfl, rfl, rfl, Nat.le_refl _, fun _ _ _ => rfl⟩
theorem Kept.trans {O O' : Nat → Prop} {a b c : World} (h : Kept O a b) (k : Kept O' b c) (hO : ∀ i, i < a.heap.size → O' i → O i) : Kept O a c :=
  ⟨k.os.trans h.os, k.tape.trans h.tape, k.output.trans h.output, Nat.le_trans h.size k.size, fun i hi hn => (k.block i (Nat.lt_of_lt_of_le hi h.size) (fun h' => hn (hO i hi h'))).trans (h.block i hi hn)⟩
theorem Kept.mono {O O' : Nat → Prop} {a b : World} (h : Kept O a b) (hO : ∀ i, i < a.heap.size → O i → O' i) : Kept O' a b :=
  ⟨h.os, h.tape, h.output, h.size, fun i hi hn => h.block i hi (fun h' => hn (hO i hi h'))⟩
theorem Kept.drewN {O : Nat → Prop} {a b : World} (h : Kept O a b) (n : Nat) : Kept O a (b.drewN n) := ⟨h.os, h.tape, h.output, h.size, h.block⟩
theorem Kept.alloc {O : Nat → Prop} {a b : World} (h : Kept O a b) (o : Obj) : Kept O a (b.alloc o) :=
  ⟨h.os, h.tape, h.output, Nat.le_trans h.size (by simp), fun i hi hn => (Below.heap_alloc b o i (Nat.lt_of_lt_of_le hi h.size)).trans (h.block i hi hn)⟩
theorem Kept.setCell {O : Nat → Prop} {a b : World} (h : Kept O a b) {p : Addr} (hp : p.block < a.heap.size → O p.block) (u : Value) : Kept O a (b.setCell p u) :=
  ⟨h.os, h.tape, h.output, Nat.le_trans h.size (by simp [World.setCell]), fun i hi hn => (Below.heap_setCell b p u i (fun e => hn (by subst e; exact hp hi))).trans (h.block i hi hn)⟩
theorem Kept.grown {O : Nat → Prop} {a b c : World} {row : Option Nat} (h : Kept O a b) (g : b.grownBy c row) (hr : ∀ k, k < a.heap.size → row = some k → O k) : Kept O a c :=
  ⟨g.os.trans h.os, g.tape.trans h.tape, g.output.trans h.output, Nat.le_trans h.size g.size, fun i hi hn => (g.block i (Nat.lt_of_lt_of_le hi h.size) (fun e => hn (hr i hi e.symm))).trans (h.block i hi hn)⟩
theorem Kept.below {O : Nat → Prop} {a b c : World} (h : Kept O a b) (g : Below b.heap.size b c) : Kept O a c :=
  ⟨g.os.trans h.os, g.tape.trans h.tape, g.output.trans h.output, Nat.le_trans h.size g.size, fun i hi hn => (g.block i (Nat.lt_of_lt_of_le hi h.size)).trans (h.block i hi hn)⟩
theorem Kept.toBelow {O : Nat → Prop} {a b : World} {B : Nat} (h : Kept O a b) (hB : B ≤ a.heap.size) (hO : ∀ i, O i → B ≤ i) : Below B a b :=
  ⟨h.os, h.tape, h.output, h.size, fun i hi => h.block i (by omega) (fun h' => by have := hO i h'; omega)⟩
theorem Kept.ownsRow {O : Nat → Prop} {w w' : World} (h : Kept O w w') {base : Nat} {e : TypeId} {size : Nat} {v : Value} {n : Nat} {xs : List Value} (ho : w.ownsRow base e size v n xs) (hb : ∀ k, v.ownBlock = some k → ¬ O k) : w'.ownsRow base e size v n xs := by
  refine ⟨ho.1, ?_⟩
  rcases ho.2 with h2 | ⟨g, cap, cur, rfl, hg, hh, r⟩
  · exact Or.inl h2
  · exact Or.inr ⟨g, cap, cur, rfl, hg, (h.block g (Array.getElem?_eq_some_iff.1 hh).1 (hb g rfl)).trans hh, r⟩
theorem Kept.heap {O : Nat → Prop} {w w' : World} (h : Kept O w w') {k : Nat} {o : Obj} (ho : w.heap[k]? = some o) (hk : ¬ O k) : w'.heap[k]? = some o :=
  (h.block k (Array.getElem?_eq_some_iff.1 ho).1 hk).trans ho

end Go.Proofs.YtfckdleahljdeaaGreatDoor
