/- Texts that belong together. -/
import Derived.Test.YtdadagbkkaeejaaGreatDoorMDk
import Derived.Test.YtdadagbkkaeejaaGreatDoorMPp
import Derived.Test.YtdadagbkkaeejaaGreatDoorSo
import Derived.Shelf.Strings.BuilderK
import Derived.Lib.ItoaLen
import Derived.Test.YtdadagbkkaeejaaGreatDoorMDg
import Derived.Lib.AppendIntMem
import Derived.Lib.LaidTab
/- A float's digits, walked. -/
namespace Go.Proofs.YtdadagbkkaeejaaGreatDoor.Nu
open Go.RowKit Go.Maps

theorem and_sign_lo {x : Nat} (h : x < 9223372036854775808) : bits .and .u64 (x : Int) 9223372036854775808 = 0 := by
  have h1 := u64_and_nat x 9223372036854775808 (by omega) (by decide)
  have e : x &&& 9223372036854775808 = 0 := by
    have h3 : x.testBit 63 = false := Nat.testBit_lt_two_pow (by omega)
    apply Nat.eq_of_testBit_eq
    intro i
    rw [Nat.testBit_and, show (9223372036854775808 : Nat) = 2 ^ 63 from rfl, Nat.testBit_two_pow, Nat.zero_testBit]
    by_cases hi : 63 = i
    · subst hi; rw [h3]; rfl
    · simp [hi]
  rw [e] at h1
  exact h1
theorem and_sign_hi {x r : Nat} (hx : x = r + 9223372036854775808) (h : r < 9223372036854775808) : bits .and .u64 (x : Int) 9223372036854775808 = 9223372036854775808 := by
  have h1 := u64_and_nat x 9223372036854775808 (by omega) (by decide)
  have e : x &&& 9223372036854775808 = 9223372036854775808 := by
    have h3 : x.testBit 63 = true := by rw [Nat.testBit_eq_decide_div_mod_eq]; simp; omega
    apply Nat.eq_of_testBit_eq
    intro i
    rw [Nat.testBit_and, show (9223372036854775808 : Nat) = 2 ^ 63 from rfl, Nat.testBit_two_pow]
    by_cases hi : 63 = i
    · subst hi; rw [h3]; rfl
    · simp [hi]
  rw [e] at h1
  exact h1
theorem andnot_sign {x : Nat} (hx : x < 18446744073709551616) : bits .andNot .u64 (x : Int) 9223372036854775808 = ((x % 9223372036854775808 : Nat) : Int) := by
  have h1 := u64_andNot_nat x 9223372036854775808 hx (by decide)
  have e : x &&& (18446744073709551615 - 9223372036854775808) = x % 9223372036854775808 := Nat.and_two_pow_sub_one_eq_mod x 63
  rw [e] at h1
  exact h1
def dgR (raw : Nat) : List UInt8 × Int := if raw = 0 ∨ 9218868437227405312 ≤ raw then ([], 0) else digR raw
theorem Nats.base {w : World} {base base' : Nat} {v1 v2 v3 v4 : Value} {V Bl A W : Nat} (h : Nats w base v1 v2 v3 v4 V Bl A W) (hb : base' ≤ base) : Nats w base' v1 v2 v3 v4 V Bl A W :=
  ⟨h.b1.base hb, h.b2.base hb, h.b3.base hb, h.b4.base hb, h.a12, h.a13, h.a14, h.a23, h.a24, h.a34⟩
theorem ret_sib {a b : List UInt8} {c d : Int} {n : Bool} (h1 : a = b) (h2 : c = d) : Ending.returned (.tuple #[.string ⟨a.toArray⟩, .int .i64 c, .bool n]) = .returned (.tuple #[.string ⟨b.toArray⟩, .int .i64 d, .bool n]) := by rw [h1, h2]

theorem head_cell {w : World} {base g c : Nat} {l : List UInt8} (h : w.ownsRow base 5 1 (.slice (some ⟨g, 0, none⟩) l.length c) l.length (u8s l)) (h0 : 0 < l.length) : w.cell? ⟨g, 0, none⟩ = some (.int .u8 ((l.headD 0).toNat : Nat)) := by
  cases l with
  | nil => simp at h0
  | cons d t =>
    have h9 := h.cells (g := g) rfl 0 (.int .u8 d.toNat) (by simp [u8s])
    rw [Addr.add_lit] at h9
    exact h9

theorem conv_row {w : World} {base g c : Nat} {l : List UInt8} (h : w.ownsRow base 5 1 (.slice (some ⟨g, 0, none⟩) l.length c) l.length (u8s l)) : (convert 22 9 (.slice (some ⟨g, 0, none⟩) l.length c)).run Tryz.prog w = .ok (.string ⟨l.toArray⟩) w := by
  refine run_convert_bytes_back (P := Tryz.prog) w 22 9 5 ⟨g, 0, none⟩ c l Tryz.underlying22 Tryz.underlying5 Tryz.underlying9 (fun j hj => ?_)
  have h9 := h.cells (g := g) rfl j (.int .u8 l[j].toNat) (by simp [u8s, hj])
  exact h9

end Go.Proofs.YtdadagbkkaeejaaGreatDoor.Nu

/- The text of 0.1. -/
namespace Go.Proofs.YtdadagbkkaeejaaGreatDoor.Nu
open Go.RowKit Go.Maps

theorem dig_tenth : dgR 4591870180066957722 = ([49], 0) := by kernel_rfl

end Go.Proofs.YtdadagbkkaeejaaGreatDoor.Nu

/- A Builder. -/
namespace Go.Proofs.YtdadagbkkaeejaaGreatDoor.Nu
open Go.RowKit Go.Maps

/-- A Builder that holds these bytes. -/
def Bd (B b : Nat) (bs : List UInt8) (w : World) : Prop := Lib.IsBuilderF 51 5 B b (Lib.byteCells bs) w
/-- What its methods leave as it was. -/
structure BK (B b : Nat) (w w' : World) : Prop where
  below : Below B w w'
  others : Lib.OthersKept 5 (some b) w w'
theorem BK.refl (B b : Nat) (w : World) : BK B b w w := ⟨Below.refl _ _, Lib.OthersKept.refl _ _ _⟩
theorem BK.trans {B b : Nat} {x y z : World} (h : BK B b x y) (k : BK B b y z) : BK B b x z := ⟨h.below.trans k.below, h.others.trans k.others⟩

theorem byteCells_append (a b : List UInt8) : Lib.byteCells (a ++ b) = Lib.byteCells a ++ Lib.byteCells b := by simp [Lib.byteCells]

theorem wb_any (B b : Nat) (bs : List UInt8) (c : UInt8) (w : World) (h : Bd B b bs w) (hl : bs.length ≤ 1000000000) (hB : B ≤ w.heap.size) :
    Calls Tryz.prog 17 #[.pointer (some ⟨b, 0, none⟩), .int .u8 c.toNat] w fun e w' => e = .returned .nilIface ∧ Bd B b (bs ++ [c]) w' ∧ BK B b w w' := by
  refine (Any.Builder_WriteByte_k Tryz.lays167 Tryz.Builder_Extra_167 B b (Lib.byteCells bs) c.toNat w h (by rw [Lib.byteCells_length]; omega) hB).mono ?_
  rintro e w' ⟨he, h1, h2, h3⟩
  refine ⟨he, Or.inr ?_, h2, h3⟩
  rw [byteCells_append]
  exact h1
theorem ws_any (B b : Nat) (bs : List UInt8) (s : ByteArray) (w : World) (h : Bd B b bs w) (hl : bs.length ≤ 1000000000) (hs : s.size ≤ 1000000000) (hB : B ≤ w.heap.size) :
    Calls Tryz.prog 18 #[.pointer (some ⟨b, 0, none⟩), .string s] w fun e w' => e = .returned (.tuple #[.int .i64 s.size, .nilIface]) ∧ Bd B b (bs ++ s.data.toList) w' ∧ BK B b w w' := by
  refine (Any.Builder_WriteString_k Tryz.lays166 Tryz.Builder_Extra_166 B b (Lib.byteCells bs) s w h (by rw [Lib.byteCells_length]; omega) hB).mono ?_
  rintro e w' ⟨he, h1, h2, h3⟩
  refine ⟨he, Or.inr ?_, h2, h3⟩
  rw [byteCells_append]
  exact h1

theorem wb_lit (B b : Nat) (bs : List UInt8) (c : UInt8) (n : Int) (hn : (c.toNat : Int) = n) (w : World) (h : Bd B b bs w) (hl : bs.length ≤ 1000000000) (hB : B ≤ w.heap.size) :
    Calls Tryz.prog 17 #[.pointer (some ⟨b, 0, none⟩), .int .u8 n] w fun e w' => e = .returned .nilIface ∧ Bd B b (bs ++ [c]) w' ∧ BK B b w w' := by
  subst hn
  exact wb_any B b bs c w h hl hB

end Go.Proofs.YtdadagbkkaeejaaGreatDoor.Nu

/- Durations as texts. -/
namespace Go.Proofs.YtdadagbkkaeejaaGreatDoor.Nu
open Go.RowKit Go.Maps

/-- The units of durations, as the program lays them. -/
def unitsL : List (List UInt8 × Nat) := [([121], 31536000000), ([119], 604800000), ([100], 86400000), ([104], 3600000), ([109], 60000), ([115], 1000), ([109, 115], 1)]
def Units (w : World) : Prop := w.cell? ⟨1, 0, none⟩ = some (.string ⟨#[121]⟩) ∧ w.cell? ⟨1, 1, none⟩ = some (.int .i64 31536000000) ∧ w.cell? ⟨1, 2, none⟩ = some (.string ⟨#[119]⟩) ∧ w.cell? ⟨1, 3, none⟩ = some (.int .i64 604800000) ∧ w.cell? ⟨1, 4, none⟩ = some (.string ⟨#[100]⟩) ∧ w.cell? ⟨1, 5, none⟩ = some (.int .i64 86400000) ∧ w.cell? ⟨1, 6, none⟩ = some (.string ⟨#[104]⟩) ∧ w.cell? ⟨1, 7, none⟩ = some (.int .i64 3600000) ∧ w.cell? ⟨1, 8, none⟩ = some (.string ⟨#[109]⟩) ∧ w.cell? ⟨1, 9, none⟩ = some (.int .i64 60000) ∧ w.cell? ⟨1, 10, none⟩ = some (.string ⟨#[115]⟩) ∧ w.cell? ⟨1, 11, none⟩ = some (.int .i64 1000) ∧ w.cell? ⟨1, 12, none⟩ = some (.string ⟨#[109, 115]⟩) ∧ w.cell? ⟨1, 13, none⟩ = some (.int .i64 1) ∧ 1 < w.heap.size
theorem Units.below {w w' : World} (h : Units w) (hb : Below w.heap.size w w') : Units w' := by
  have hs := hb.size
  obtain ⟨h0, h1, h2, h3, h4, h5, h6, h7, h8, h9, h10, h11, h12, h13, hl⟩ := h
  exact ⟨(hb.cell (p := ⟨1, 0, none⟩) hl).trans h0, (hb.cell (p := ⟨1, 1, none⟩) hl).trans h1, (hb.cell (p := ⟨1, 2, none⟩) hl).trans h2, (hb.cell (p := ⟨1, 3, none⟩) hl).trans h3, (hb.cell (p := ⟨1, 4, none⟩) hl).trans h4, (hb.cell (p := ⟨1, 5, none⟩) hl).trans h5, (hb.cell (p := ⟨1, 6, none⟩) hl).trans h6, (hb.cell (p := ⟨1, 7, none⟩) hl).trans h7, (hb.cell (p := ⟨1, 8, none⟩) hl).trans h8, (hb.cell (p := ⟨1, 9, none⟩) hl).trans h9, (hb.cell (p := ⟨1, 10, none⟩) hl).trans h10, (hb.cell (p := ⟨1, 11, none⟩) hl).trans h11, (hb.cell (p := ⟨1, 12, none⟩) hl).trans h12, (hb.cell (p := ⟨1, 13, none⟩) hl).trans h13, by omega⟩
/-- The parts of a duration, the first ones. -/
def durS (u : List UInt8 × Nat) (s : List UInt8 × Nat) : List UInt8 × Nat := (s.1 ++ (if 0 < s.2 / u.2 then Lib.decDigits (s.2 / u.2) ++ u.1 else []), s.2 % u.2)
def durK (n : Nat) (k : Nat) : List UInt8 × Nat := (unitsL.take k).foldl (fun s u => durS u s) ([], n)
theorem durK_succ (n k : Nat) (hk : k < 7) (u : List UInt8 × Nat) (hu : unitsL[k]? = some u) : durK n (k + 1) = durS u (durK n k) := by
  unfold durK
  have h1 : k < unitsL.length := hk
  rw [List.take_succ_eq_append_getElem h1, List.foldl_append]
  have h2 : unitsL[k] = u := by
    rw [List.getElem?_eq_getElem h1] at hu
    exact Option.some.inj hu
  rw [h2]
  rfl
end Go.Proofs.YtdadagbkkaeejaaGreatDoor.Nu

/- Durations as texts, walked. -/
namespace Go.Proofs.YtdadagbkkaeejaaGreatDoor.Nu
open Go.RowKit Go.Maps

theorem Bd.block {B b : Nat} {bs : List UInt8} {W : World} (h : Bd B b bs W) : ∃ c, W.heap[b]? = some (.cells c 51 (0, 0)) := by
  rcases h with ⟨_, v, h2, _⟩ | ⟨_, v, h2, _⟩
  · exact ⟨_, h2⟩
  · exact ⟨_, h2⟩
/-- A new Builder. -/
theorem Bd.fresh (w : World) : Bd w.heap.size w.heap.size [] (w.alloc (.cells #[.pointer none, .slice none 0 0] 51 (0, 0))) :=
  Or.inl ⟨Nat.le_refl _, .slice none 0 0, heap_alloc_new w _, ⟨rfl, Or.inl ⟨rfl, rfl⟩⟩, by simp [Value.ownBlock]⟩
theorem Bd.below {B b : Nat} {bs : List UInt8} {W W' : World} (h : Bd B b bs W) (hb : Below W.heap.size W W') : Bd B b bs W' := by
  have key : ∀ p, Lib.BuilderAtF 51 5 B b p (Lib.byteCells bs) W → Lib.BuilderAtF 51 5 B b p (Lib.byteCells bs) W' := fun p hp => by
    obtain ⟨h1, v, h2, h3, h4⟩ := hp
    refine ⟨h1, v, (hb.block b (Array.getElem?_eq_some_iff.1 h2).1).trans h2, ⟨h3.1, ?_⟩, h4⟩
    rcases h3.2 with h5 | ⟨g, cap, cur, fz, e1, e2, e3, e4⟩
    · exact Or.inl h5
    · exact Or.inr ⟨g, cap, cur, fz, e1, e2, (hb.block g (Array.getElem?_eq_some_iff.1 e3).1).trans e3, e4⟩
  exact h.elim (fun x => Or.inl (key _ x)) (fun x => Or.inr (key _ x))

theorem dec_len (n : Nat) (h : n < 18446744073709551616) : (Lib.decDigits n).length ≤ 20 := by
  rw [Lib.decDigits_length]
  exact Lib.nDigits_le20 n h

end Go.Proofs.YtdadagbkkaeejaaGreatDoor.Nu

/- Nothing: what seats without the durations need not. -/

/- Whole numbers as digits; the table of the powers of ten. -/
namespace Go.Proofs.YtdadagbkkaeejaaGreatDoor.Nu
open Go.RowKit Go.Maps

/-- The table of the powers of ten, as the library lays it. -/
def Pow (w : World) : Prop := Lib.TabIs Tryz.prog w "internal/strconv.uint64pow10" .u64 Lib.pow10Tab
theorem Pow.below {w w' : World} (h : Pow w) (hb : Below w.heap.size w w') : Pow w' := by
  have hg : Tryz.prog.globalNamed "internal/strconv.uint64pow10" = some 6 := by kernel_rfl
  unfold Pow Lib.TabIs World.var? at h ⊢
  rw [hg] at h ⊢
  simp only [Option.bind_some] at h ⊢
  have hlt : 6 < w.heap.size := by
    rcases Nat.lt_or_ge 6 w.heap.size with h' | h'
    · exact h'
    · rw [Array.getElem?_eq_none h'] at h; cases h
  rw [hb.block _ hlt]
  exact h
/-- A number's digits say it. -/
theorem dec_val : ∀ (n u : Nat), u ≤ n → (∀ b ∈ Lib.decDigits u, isD b) ∧ Lib.decDigits u ≠ [] ∧ valT (Lib.decDigits u) = u
  | n, u, h => by
    by_cases h10 : u < 10
    · rw [Lib.decDigits_one h10]
      have e : (UInt8.ofNat (48 + u)).toNat = 48 + u := by rw [UInt8.toNat_ofNat']; omega
      refine ⟨fun b hb => ?_, by simp, ?_⟩
      · rw [List.mem_singleton.1 hb]; unfold isD; omega
      · rw [valT_cons, e]; simp [valT]
    · cases n with
      | zero => omega
      | succ n =>
        obtain ⟨i1, i2, i3⟩ := dec_val n (u / 10) (by omega)
        have e : (UInt8.ofNat (48 + u % 10)).toNat = 48 + u % 10 := by rw [UInt8.toNat_ofNat']; omega
        have hd : Lib.decDigits u = Lib.decDigits (u / 10) ++ [UInt8.ofNat (48 + u % 10)] := by rw [Lib.decDigits, dif_neg h10]
        rw [hd]
        refine ⟨fun b hb => ?_, by simp, ?_⟩
        · rcases List.mem_append.1 hb with h1 | h1
          · exact i1 b h1
          · rw [List.mem_singleton.1 h1]; unfold isD; omega
        · rw [valT_append, i3, valT_cons, e]; simp [valT]; omega
theorem itoa_exp (n : Int) (h1 : -1000000 ≤ n) (h2 : n ≤ 1000000) : expR ⟨(Lib.itoa n).toArray⟩ = (n, true) := by
  unfold Lib.itoa
  split
  · obtain ⟨a, b, c⟩ := dec_val n.natAbs n.natAbs (Nat.le_refl _)
    have h := expR_minus a b (by rw [c]; omega)
    rw [h, c]
    congr 1
    omega
  · obtain ⟨a, b, c⟩ := dec_val n.toNat n.toNat (Nat.le_refl _)
    have h := expR_plain a b (by rw [c]; omega)
    rw [h, c]
    congr 1
    omega
/-- A whole number with an exponent is read as the nearest float. -/
theorem parse_whole {x : List UInt8} {k : Int} (hx : ∀ b ∈ x, isD b) (hne : x ≠ []) (hl : x.length ≤ 300) (h1 : -1000000 ≤ k) (h2 : k ≤ 1000000) : ∃ R, parseR ⟨(x ++ 101 :: Lib.itoa k).toArray⟩ = (R, 0) ∧ NearF (valT x * 10 ^ k.toNat) (10 ^ (-k).toNat) R := by
  obtain ⟨ds, h3, h4, h5⟩ := decR_whole hx hne (itoa_exp k h1 h2)
  have hil : (Lib.itoa k).length ≤ 21 := Lib.itoa_length_le k (by omega) (by omega)
  obtain ⟨b, t, rfl⟩ : ∃ b t, x = b :: t := by
    cases x with
    | nil => exact absurd rfl hne
    | cons b t => exact ⟨b, t, rfl⟩
  have hp := parse_digit (b := b) (t := t ++ 101 :: Lib.itoa k) (hx b (by simp)) (by simp at hl ⊢; omega)
  rw [List.cons_append] at h3 ⊢
  rw [hp, h3]
  refine ⟨nearN ds k, rfl, ?_⟩
  rw [← h4]
  exact nearN_near h5 k
end Go.Proofs.YtdadagbkkaeejaaGreatDoor.Nu
