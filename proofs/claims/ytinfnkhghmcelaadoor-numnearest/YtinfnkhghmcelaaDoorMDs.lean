/- Texts that belong together. -/
import Derived.Test.YtinfnkhghmcelaaDoorMDr
import Derived.Test.YtinfnkhghmcelaaDoorMIa
import Derived.Test.YtinfnkhghmcelaaDoorSo
import Derived.Shelf.Strings.BuilderK
/- The text of 0.1. -/
namespace Go.Proofs.YtinfnkhghmcelaaDoor
open Go.RowKit Go.Maps

theorem dig_tenth : dgR 4591870180066957722 = ([49], 0) := by kernel_rfl

set_option maxRecDepth 100000 in
theorem repeat_zero (s : ByteArray) (w : World) : Calls Tryd.prog 73 #[.string s, .int .i64 0] w fun e w' => e = .returned (.string ⟨#[]⟩) ∧ w' = w := by
  go_enter Tryd.func73, Tryd.ntmps73
  go_wp2
  go_ret
  exact ⟨rfl, rfl⟩

set_option maxRecDepth 100000 in
theorem plain_tenth (w : World) : Calls Tryd.prog 42 #[.string ⟨#[49]⟩, .int .i64 0] w fun e w' => e = .returned (.string ⟨#[48, 46, 49]⟩) ∧ w' = w := by
  have hr := repeat_zero ⟨#[48]⟩ w
  go_enter Tryd.func42, Tryd.ntmps42
  go_wp2_with (go_at_call 73; refine hr.mono ?_; clear hr; rintro e w1 ⟨rfl, hw1⟩; have hw1 := hw1.symm; subst hw1)
  go_ret
  exact ⟨rfl, rfl⟩

set_option maxRecDepth 100000 in
theorem text_tenth (w : World) : Calls Tryd.prog 13 #[.float .f64 4591870180066957722] w fun e w' => e = .returned (.string ⟨#[48, 46, 49]⟩) ∧ Below w.heap.size w w' := by
  have hd := digits_any 4591870180066957722 w (by decide)
  rw [show 4591870180066957722 % 9223372036854775808 = 4591870180066957722 from rfl, dig_tenth, show decide (9223372036854775808 ≤ 4591870180066957722) = false from rfl] at hd
  have hfb := floatbits_run
  have hp := plain_tenth
  have hand := andnot_sign (x := 4591870180066957722) (by decide)
  have hand2 : bits .andNot .u64 4591870180066957722 9223372036854775808 = 4591870180066957722 := hand
  clear hand
  go_enter Tryd.func13, Tryd.ntmps13
  go_wp2_with (first
    | (go_at_call 11; refine hd.mono ?_; clear hd; rintro e w1 ⟨rfl, hb1⟩; have HB1 : Hid (Below w.heap.size w w1) := hb1; clear hb1)
    | (go_at_call 42; refine (hp _).mono ?_; clear hp; rintro e w2 ⟨rfl, hw2⟩; have hw2 := hw2.symm; subst hw2))
  go_ret
  exact ⟨rfl, HB1.out⟩
end Go.Proofs.YtinfnkhghmcelaaDoor

/- A Builder. -/
namespace Go.Proofs.YtinfnkhghmcelaaDoor
open Go.RowKit Go.Maps

/-- A Builder that holds these bytes. -/
def Bd (B b : Nat) (bs : List UInt8) (w : World) : Prop := Lib.IsBuilderF 91 5 B b (Lib.byteCells bs) w
/-- What its methods leave as it was. -/
structure BK (B b : Nat) (w w' : World) : Prop where
  below : Below B w w'
  others : Lib.OthersKept 5 (some b) w w'
theorem BK.refl (B b : Nat) (w : World) : BK B b w w := ⟨Below.refl _ _, Lib.OthersKept.refl _ _ _⟩
theorem BK.trans {B b : Nat} {x y z : World} (h : BK B b x y) (k : BK B b y z) : BK B b x z := ⟨h.below.trans k.below, h.others.trans k.others⟩

theorem byteCells_append (a b : List UInt8) : Lib.byteCells (a ++ b) = Lib.byteCells a ++ Lib.byteCells b := by simp [Lib.byteCells]

theorem wb_any (B b : Nat) (bs : List UInt8) (c : UInt8) (w : World) (h : Bd B b bs w) (hl : bs.length ≤ 1000000000) (hB : B ≤ w.heap.size) :
    Calls Tryd.prog 54 #[.pointer (some ⟨b, 0, none⟩), .int .u8 c.toNat] w fun e w' => e = .returned .nilIface ∧ Bd B b (bs ++ [c]) w' ∧ BK B b w w' := by
  refine (Any.Builder_WriteByte_k Tryd.lays167 Tryd.Builder_Extra_167 B b (Lib.byteCells bs) c.toNat w h (by rw [Lib.byteCells_length]; omega) hB).mono ?_
  rintro e w' ⟨he, h1, h2, h3⟩
  refine ⟨he, Or.inr ?_, h2, h3⟩
  rw [byteCells_append]
  exact h1
theorem ws_any (B b : Nat) (bs : List UInt8) (s : ByteArray) (w : World) (h : Bd B b bs w) (hl : bs.length ≤ 1000000000) (hs : s.size ≤ 1000000000) (hB : B ≤ w.heap.size) :
    Calls Tryd.prog 56 #[.pointer (some ⟨b, 0, none⟩), .string s] w fun e w' => e = .returned (.tuple #[.int .i64 s.size, .nilIface]) ∧ Bd B b (bs ++ s.data.toList) w' ∧ BK B b w w' := by
  refine (Any.Builder_WriteString_k Tryd.lays166 Tryd.Builder_Extra_166 B b (Lib.byteCells bs) s w h (by rw [Lib.byteCells_length]; omega) hB).mono ?_
  rintro e w' ⟨he, h1, h2, h3⟩
  refine ⟨he, Or.inr ?_, h2, h3⟩
  rw [byteCells_append]
  exact h1

theorem wb_lit (B b : Nat) (bs : List UInt8) (c : UInt8) (n : Int) (hn : (c.toNat : Int) = n) (w : World) (h : Bd B b bs w) (hl : bs.length ≤ 1000000000) (hB : B ≤ w.heap.size) :
    Calls Tryd.prog 54 #[.pointer (some ⟨b, 0, none⟩), .int .u8 n] w fun e w' => e = .returned .nilIface ∧ Bd B b (bs ++ [c]) w' ∧ BK B b w w' := by
  subst hn
  exact wb_any B b bs c w h hl hB

end Go.Proofs.YtinfnkhghmcelaaDoor

/- Durations as texts. -/
namespace Go.Proofs.YtinfnkhghmcelaaDoor
open Go.RowKit Go.Maps

set_option maxRecDepth 100000 in
theorem fu_inner (i : Nat) (hi : i < 100) (w : World) : Calls Tryd.prog 77 #[.int .u64 i, .int .i64 10] w fun e w' => e = .returned (.string ⟨(Lib.decDigits i).toArray⟩) ∧ w' = w := by
  have hs := Any.internal_strconv_small Tryd.lays283 i hi w
  have hs : Calls Tryd.prog 86 #[.int .i64 i] w fun e w' => e = .returned (.string ⟨(Lib.decDigits i).toArray⟩) ∧ w' = w := hs
  generalize Lib.decDigits i = D at *
  go_enter Tryd.func77, Tryd.ntmps77
  go_wp2_with (go_at_call 86; refine hs.mono ?_; clear hs; rintro e w1 ⟨rfl, hw1⟩; have hw1 := hw1.symm; subst hw1)
  go_ret
  exact ⟨rfl, rfl⟩
set_option maxRecDepth 100000 in
theorem fu_small (i : Nat) (hi : i < 100) (w : World) : Calls Tryd.prog 57 #[.int .u64 i, .int .i64 10] w fun e w' => e = .returned (.string ⟨(Lib.decDigits i).toArray⟩) ∧ Below w.heap.size w w' := by
  have hs := fu_inner i hi w
  generalize Lib.decDigits i = D at *
  go_enter Tryd.func57, Tryd.ntmps57
  go_wp2_with (go_at_call 77; refine hs.mono ?_; clear hs; rintro e w1 ⟨rfl, hw1⟩; have hw1 := hw1.symm; subst hw1)
  go_ret
  exact ⟨rfl, Below.refl _ _⟩

/-- The units of durations, as the program lays them. -/
def unitsL : List (List UInt8 × Nat) := [([121], 31536000000), ([119], 604800000), ([100], 86400000), ([104], 3600000), ([109], 60000), ([115], 1000), ([109, 115], 1)]
def Units (w : World) : Prop := w.cell? ⟨1, 0, none⟩ = some (.string ⟨#[121]⟩) ∧ w.cell? ⟨1, 1, none⟩ = some (.int .i64 31536000000) ∧ w.cell? ⟨1, 2, none⟩ = some (.string ⟨#[119]⟩) ∧ w.cell? ⟨1, 3, none⟩ = some (.int .i64 604800000) ∧ w.cell? ⟨1, 4, none⟩ = some (.string ⟨#[100]⟩) ∧ w.cell? ⟨1, 5, none⟩ = some (.int .i64 86400000) ∧ w.cell? ⟨1, 6, none⟩ = some (.string ⟨#[104]⟩) ∧ w.cell? ⟨1, 7, none⟩ = some (.int .i64 3600000) ∧ w.cell? ⟨1, 8, none⟩ = some (.string ⟨#[109]⟩) ∧ w.cell? ⟨1, 9, none⟩ = some (.int .i64 60000) ∧ w.cell? ⟨1, 10, none⟩ = some (.string ⟨#[115]⟩) ∧ w.cell? ⟨1, 11, none⟩ = some (.int .i64 1000) ∧ w.cell? ⟨1, 12, none⟩ = some (.string ⟨#[109, 115]⟩) ∧ w.cell? ⟨1, 13, none⟩ = some (.int .i64 1) ∧ 1 < w.heap.size
theorem Units.below {w w' : World} (h : Units w) (hb : Below w.heap.size w w') : Units w' := by
  have hs := hb.size
  obtain ⟨h0, h1, h2, h3, h4, h5, h6, h7, h8, h9, h10, h11, h12, h13, hl⟩ := h
  exact ⟨(hb.cell (p := ⟨1, 0, none⟩) hl).trans h0, (hb.cell (p := ⟨1, 1, none⟩) hl).trans h1, (hb.cell (p := ⟨1, 2, none⟩) hl).trans h2, (hb.cell (p := ⟨1, 3, none⟩) hl).trans h3, (hb.cell (p := ⟨1, 4, none⟩) hl).trans h4, (hb.cell (p := ⟨1, 5, none⟩) hl).trans h5, (hb.cell (p := ⟨1, 6, none⟩) hl).trans h6, (hb.cell (p := ⟨1, 7, none⟩) hl).trans h7, (hb.cell (p := ⟨1, 8, none⟩) hl).trans h8, (hb.cell (p := ⟨1, 9, none⟩) hl).trans h9, (hb.cell (p := ⟨1, 10, none⟩) hl).trans h10, (hb.cell (p := ⟨1, 11, none⟩) hl).trans h11, (hb.cell (p := ⟨1, 12, none⟩) hl).trans h12, (hb.cell (p := ⟨1, 13, none⟩) hl).trans h13, by omega⟩
/-- The parts of a duration, the first ones. -/
def durS (u : List UInt8 × Nat) (s : List UInt8 × Nat) : List UInt8 × Nat := (s.1 ++ (if 0 < s.2 / u.2 then Lib.decDigits (s.2 / u.2) ++ u.1 else []), s.2 % u.2)
def durK (n : Nat) (k : Nat) : List UInt8 × Nat := (unitsL.take k).foldl (fun s u => durS u s) ([], n)
theorem durK_succ (n k : Nat) (hk : k < 7) (u : List UInt8 × Nat) (hu : unitsL[k]? = some u) : durK n (k + 1) = durS u (durK n k) := by
  unfold durK
  have h1 : k < unitsL.length := hk
  rw [List.take_succ_eq_append_getElem h1, List.foldl_append]
  have h2 : unitsL[k] = u := by
    rw [List.getElem?_eq_getElem h1] at hu
    exact Option.some.inj hu
  rw [h2]
  rfl
end Go.Proofs.YtinfnkhghmcelaaDoor
