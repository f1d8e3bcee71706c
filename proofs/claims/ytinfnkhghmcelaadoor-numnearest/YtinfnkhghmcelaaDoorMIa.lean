/- Texts that belong together. -/
import Derived.Test.YtinfnkhghmcelaaDoorMDg
import Derived.Laws.FloatArith
import Derived.Shelf.Lays
import Derived.Shelf.Strings.Builder1
import Derived.KernelRfl
import Derived.Test.YtinfnkhghmcelaaDoorSn
/- Floats: a whole number of 53 bits, and twice a float (pure). -/
namespace Go.Proofs.YtinfnkhghmcelaaDoor
open Go

theorem dbl_b : Ieee.double.binade = 4503599627370496 := by decide +kernel
theorem dbl_i : Ieee.double.infRung = 9218868437227405312 := by decide +kernel
theorem dbl_f : Ieee.double.fractionBits = 52 := rfl
theorem dbl_l : Ieee.double.leastPlace = -1074 := by decide +kernel
theorem dbl_s : Ieee.double.signWeight = 9223372036854775808 := by decide +kernel
theorem two_52 : (2 : Nat) ^ 52 = 4503599627370496 := by decide +kernel
theorem two_53 : (2 : Nat) ^ 53 = 9007199254740992 := by decide +kernel
theorem near_c (c d : Nat) (place : Int) (h1 : 4503599627370496 ≤ c) (h2 : c < 9007199254740992) (hp : -1074 ≤ place + d) (ht : place + d ≤ 900) : Ieee.double.nearest false (c * 2 ^ d) place = (place + d + 1074).toNat * 4503599627370496 + c := by
  have hpos : 0 < 2 ^ d := Nat.pow_pos (by decide)
  have hm : c * 2 ^ d ≠ 0 := Nat.mul_ne_zero (by omega) (by omega)
  have hlog : (c * 2 ^ d).log2 = 52 + d := by
    refine (Nat.log2_eq_iff hm).2 ⟨?_, ?_⟩
    · rw [Nat.pow_add, two_52]
      exact Nat.mul_le_mul_right _ h1
    · rw [show 52 + d + 1 = 53 + d by omega, Nat.pow_add, two_53]
      exact Nat.mul_lt_mul_of_pos_right h2 hpos
  have hlast : max (place + ((c * 2 ^ d).log2 : Int) - (Ieee.double.fractionBits : Int)) Ieee.double.leastPlace = place + d := by
    rw [hlog, dbl_f, dbl_l]
    omega
  have hcut : Ieee.Toward.even.cut false (c * 2 ^ d) d = c := by
    unfold Ieee.Toward.cut
    rw [hlog, Nat.min_eq_left (by omega), Nat.one_shiftLeft]
    have e1 : c * 2 ^ d / 2 ^ d = c := Nat.mul_div_cancel _ hpos
    have e2 : c * 2 ^ d % 2 ^ d = 0 := Nat.mul_mod_left _ _
    have e3 : decide (2 ^ d < 0) = false := decide_eq_false (by omega)
    have e4 : (2 ^ d == 0) = false := by rw [beq_eq_false_iff_ne]; omega
    simp only [e1, e2, Nat.mul_zero, e3, e4, Bool.false_and, Bool.or_self, Bool.toNat_false, Nat.add_zero]
  unfold Ieee.Format.nearest
  rw [if_neg hm]
  simp only [hlast]
  rw [show (place - (place + (d : Int))).toNat = 0 by omega, show (place + (d : Int) - place).toNat = d by omega, Nat.shiftLeft_zero, hcut]
  rw [dbl_l, dbl_b, dbl_i]
  unfold Ieee.Format.word
  rw [if_neg (by decide), show place + (d : Int) - (-1074) = place + d + 1074 by omega]
  omega
/-- A float's rung says it. -/
theorem read_c (c q : Nat) (h1 : 4503599627370496 ≤ c) (h2 : c < 9007199254740992) (hq : q ≤ 2000) : Ieee.double.read (c + q * 4503599627370496) = .number false c ((q : Int) - 1074) := by
  have e0 : (c + q * 4503599627370496) / 9223372036854775808 = 0 := by omega
  have e1 : (c + q * 4503599627370496) % 9223372036854775808 = c + q * 4503599627370496 := by omega
  have e2 : (c + q * 4503599627370496) % 4503599627370496 = c - 4503599627370496 := by omega
  have e3 : (c + q * 4503599627370496) / 4503599627370496 = q + 1 := by omega
  unfold Ieee.Format.read
  simp only [dbl_s, dbl_b, dbl_i, dbl_l]
  rw [e1, if_neg (by omega), if_pos (by omega), e0, e2, e3]
  rw [show ((0 % 2 : Nat) == 1) = false by decide, show 4503599627370496 + (c - 4503599627370496) = c by omega, show (-1074 + ((q + 1 - 1 : Nat) : Int)) = (q : Int) - 1074 by omega]
theorem twice_c (c q : Nat) (h1 : 4503599627370496 ≤ c) (h2 : c < 9007199254740992) (hq1 : 1 ≤ q) (hq : q ≤ 1900) : FloatKind.f64.format.mul (c + q * 4503599627370496) 4611686018427387904 = some (c + (q + 1) * 4503599627370496) := by
  rw [show FloatKind.f64.format = Ieee.double from rfl]
  unfold Ieee.Format.mul
  have e2 : Ieee.double.read 4611686018427387904 = .number false 4503599627370496 (-51) := by decide +kernel
  rw [read_c c q h1 h2 (by omega), e2]
  unfold Ieee.Datum.product
  simp only [Option.map_some, Bool.bne_false]
  unfold Ieee.Format.write
  simp only []
  rw [← two_52, near_c c 52 _ h1 h2 (by omega) (by omega)]
  rw [show (((q : Int) - 1074 + -51 + (52 : Nat) + 1074).toNat) * 4503599627370496 + c = c + (q + 1) * 4503599627370496 by omega]
/-- Twice a float of 53 bits, or of their bound. -/
theorem twice_any (m q : Nat) (h1 : 4503599627370496 ≤ m) (h2 : m ≤ 9007199254740992) (hq1 : 1 ≤ q) (hq : q ≤ 1800) : FloatKind.f64.format.mul (m + q * 4503599627370496) 4611686018427387904 = some (m + (q + 1) * 4503599627370496) := by
  rcases Nat.lt_or_ge m 9007199254740992 with h | h
  · exact twice_c m q h1 h hq1 (by omega)
  · have e : m = 9007199254740992 := by omega
    subst e
    have h9 := twice_c 4503599627370496 (q + 1) (by decide) (by decide) (by omega) (by omega)
    rw [show 9007199254740992 + q * 4503599627370496 = 4503599627370496 + (q + 1) * 4503599627370496 by omega, h9, show 4503599627370496 + (q + 1 + 1) * 4503599627370496 = 9007199254740992 + (q + 1) * 4503599627370496 by omega]
theorem whole_any (m : Nat) (h1 : 4503599627370496 ≤ m) (h2 : m ≤ 9007199254740992) : floatOfInt .f64 (m : Int) = m + 1074 * 4503599627370496 := by
  show Ieee.double.nearest (decide ((m : Int) < 0)) (m : Int).natAbs 0 = _
  rw [decide_eq_false (by omega), Int.natAbs_natCast]
  rcases Nat.lt_or_ge m 9007199254740992 with h | h
  · have h9 := near_c m 0 0 h1 h (by omega) (by omega)
    rw [Nat.pow_zero, Nat.mul_one] at h9
    rw [h9]
    omega
  · have e : m = 9007199254740992 := by omega
    subst e
    have h9 := near_c 4503599627370496 1 0 (by decide) (by decide) (by omega) (by omega)
    rw [show 4503599627370496 * 2 ^ 1 = 9007199254740992 by decide] at h9
    rw [h9]
    decide
end Go.Proofs.YtinfnkhghmcelaaDoor

/- strings.Builder's contracts at this program. -/
namespace Go.Proofs
open Go.Shelf
def Tryd.lays166_ren : Go.Shelf.Ren := ⟨fun | 166 => 56 | 240 => 76 | 276 => 85 | n => n, fun | 20 => 20 | 37 => 44 | 70 => 89 | 72 => 91 | 75 => 93 | 80 => 101 | 164 => 119 | n => n, fun | n => n⟩
theorem Tryd.lays166 : Go.Proofs.Lays.n166 Tryd.prog Tryd.lays166_ren := {
  mixed := by kernel_rfl
  f166 := Tryd.func56.trans (congrArg some (by kernel_rfl))
  f240 := Tryd.func76.trans (congrArg some (by kernel_rfl))
  f276 := Tryd.func85.trans (congrArg some (by kernel_rfl))
  t0 := Tryd.underlying0
  a0 := Tryd.isAgg0
  z0 := Tryd.sizeOf0
  v0 := Tryd.zeroValue0
  t3 := Tryd.underlying3
  a3 := Tryd.isAgg3
  z3 := Tryd.sizeOf3
  v3 := Tryd.zeroValue3
  t4 := Tryd.underlying4
  a4 := Tryd.isAgg4
  z4 := Tryd.sizeOf4
  v4 := Tryd.zeroValue4
  t9 := Tryd.underlying9
  a9 := Tryd.isAgg9
  z9 := Tryd.sizeOf9
  v9 := Tryd.zeroValue9
  t20 := Tryd.underlying20
  a20 := Tryd.isAgg20
  z20 := Tryd.sizeOf20
  v20 := Tryd.zeroValue20
  t37 := Tryd.underlying44
  a37 := Tryd.isAgg44
  z37 := Tryd.sizeOf44
  v37 := Tryd.zeroValue44
  t70 := Tryd.underlying89
  a70 := Tryd.isAgg89
  z70 := Tryd.sizeOf89
  v70 := Tryd.zeroValue89
  t72 := Tryd.underlying91
  a72 := Tryd.isAgg91
  z72 := Tryd.sizeOf91
  v72 := Tryd.zeroValue91
  t75 := Tryd.underlying93
  a75 := Tryd.isAgg93
  z75 := Tryd.sizeOf93
  v75 := Tryd.zeroValue93
  t164 := Tryd.underlying119
  a164 := Tryd.isAgg119
  z164 := Tryd.sizeOf119
  v164 := Tryd.zeroValue119 }
theorem Tryd.Builder_Extra_166 : Builder.Extra Tryd.prog Tryd.lays166_ren := {
  sizeBuilder := by kernel_rfl
  liesBuilder := by kernel_rfl
  t5 := Tryd.underlying5
  a5 := Tryd.isAgg5
  z5 := Tryd.sizeOf5
  v5 := Tryd.zeroValue5
  infoByte := by kernel_rfl
  cellsByte := by kernel_rfl
  sizeByte := by kernel_rfl
  neB5 := by decide }
def Tryd.lays167_ren : Go.Shelf.Ren := ⟨fun | 167 => 54 | 240 => 76 | 276 => 85 | n => n, fun | 20 => 20 | 37 => 44 | 70 => 89 | 72 => 91 | 75 => 93 | 80 => 101 | 164 => 119 | n => n, fun | n => n⟩
theorem Tryd.lays167 : Go.Proofs.Lays.n167 Tryd.prog Tryd.lays167_ren := {
  mixed := by kernel_rfl
  f167 := Tryd.func54.trans (congrArg some (by kernel_rfl))
  f240 := Tryd.func76.trans (congrArg some (by kernel_rfl))
  f276 := Tryd.func85.trans (congrArg some (by kernel_rfl))
  t0 := Tryd.underlying0
  a0 := Tryd.isAgg0
  z0 := Tryd.sizeOf0
  v0 := Tryd.zeroValue0
  t4 := Tryd.underlying4
  a4 := Tryd.isAgg4
  z4 := Tryd.sizeOf4
  v4 := Tryd.zeroValue4
  t5 := Tryd.underlying5
  a5 := Tryd.isAgg5
  z5 := Tryd.sizeOf5
  v5 := Tryd.zeroValue5
  t9 := Tryd.underlying9
  a9 := Tryd.isAgg9
  z9 := Tryd.sizeOf9
  v9 := Tryd.zeroValue9
  t20 := Tryd.underlying20
  a20 := Tryd.isAgg20
  z20 := Tryd.sizeOf20
  v20 := Tryd.zeroValue20
  t37 := Tryd.underlying44
  a37 := Tryd.isAgg44
  z37 := Tryd.sizeOf44
  v37 := Tryd.zeroValue44
  t70 := Tryd.underlying89
  a70 := Tryd.isAgg89
  z70 := Tryd.sizeOf89
  v70 := Tryd.zeroValue89
  t72 := Tryd.underlying91
  a72 := Tryd.isAgg91
  z72 := Tryd.sizeOf91
  v72 := Tryd.zeroValue91
  t75 := Tryd.underlying93
  a75 := Tryd.isAgg93
  z75 := Tryd.sizeOf93
  v75 := Tryd.zeroValue93
  t164 := Tryd.underlying119
  a164 := Tryd.isAgg119
  z164 := Tryd.sizeOf119
  v164 := Tryd.zeroValue119 }
theorem Tryd.Builder_Extra_167 : Builder.Extra Tryd.prog Tryd.lays167_ren := {
  sizeBuilder := by kernel_rfl
  liesBuilder := by kernel_rfl
  t5 := Tryd.underlying5
  a5 := Tryd.isAgg5
  z5 := Tryd.sizeOf5
  v5 := Tryd.zeroValue5
  infoByte := by kernel_rfl
  cellsByte := by kernel_rfl
  sizeByte := by kernel_rfl
  neB5 := by decide }
open Go.RowKit in
theorem Tryd.Builder_WriteByte (B b : Nat) (bs : List Value) (c : Int) (w : World) (h : Lib.IsBuilder 91 5 B b bs w) (hlen : bs.length + 1 ≤ 140737488355328) (hBw : B ≤ w.heap.size) :
    Calls Tryd.prog 54 #[.pointer (some ⟨b, 0, none⟩), .int .u8 c] w fun e w' => e = .returned .nilIface ∧ (Lib.BuilderAt 91 5 B b (.pointer (some ⟨b, 0, none⟩)) (bs ++ [.int .u8 c]) w' ∧ Below B w w') := Any.Builder_WriteByte Tryd.lays167 Tryd.Builder_Extra_167 B b bs c w h hlen hBw
open Go.RowKit in
theorem Tryd.Builder_WriteString (B b : Nat) (bs : List Value) (s : ByteArray) (w : World) (h : Lib.IsBuilder 91 5 B b bs w) (hlen : bs.length + s.size ≤ 140737488355328) (hBw : B ≤ w.heap.size) :
    Calls Tryd.prog 56 #[.pointer (some ⟨b, 0, none⟩), .string s] w fun e w' => e = .returned (.tuple #[.int .i64 s.size, .nilIface]) ∧ (Lib.BuilderAt 91 5 B b (.pointer (some ⟨b, 0, none⟩)) (bs ++ Lib.strCells s) w' ∧ Below B w w') := Any.Builder_WriteString Tryd.lays166 Tryd.Builder_Extra_166 B b bs s w h hlen hBw
end Go.Proofs
