/- Texts that belong together. -/
import Derived.Test.YtmlcilalmhpmiaaDoorMFo
import Derived.Test.YtmlcilalmhpmiaaDoorMPp
import Derived.Test.YtmlcilalmhpmiaaDoorSq
import Derived.Lib.AppendIntMem
import Derived.Lib.LaidTab
import Derived.SizedLaws
import Derived.Lib.AtoiAllCases
/- Whole numbers as texts. -/
namespace Go.Proofs.YtmlcilalmhpmiaaDoor
open Go.RowKit Go.Maps

/-- The table of the powers of ten, as the library lays it. -/
def Pow (w : World) : Prop := Lib.TabIs Tryd.prog w "internal/strconv.uint64pow10" .u64 Lib.pow10Tab
theorem Pow.below {w w' : World} (h : Pow w) (hb : Below w.heap.size w w') : Pow w' := by
  have hg : Tryd.prog.globalNamed "internal/strconv.uint64pow10" = some 4 := by kernel_rfl
  unfold Pow Lib.TabIs World.var? at h ⊢
  rw [hg] at h ⊢
  simp only [Option.bind_some] at h ⊢
  have hlt : 4 < w.heap.size := by
    rcases Nat.lt_or_ge 4 w.heap.size with h' | h'
    · exact h'
    · rw [Array.getElem?_eq_none h'] at h; cases h
  rw [hb.block _ hlt]
  exact h
set_option maxRecDepth 100000 in
theorem intText_any (n : Int) (w : World) (h0 : -9223372036854775808 ≤ n) (h1 : n ≤ 9223372036854775807) (hp : Pow w) : Calls Tryd.prog 21 #[.int .i64 n] w fun e w' => e = .returned (.string ⟨(Lib.itoa n).toArray⟩) ∧ Below w.heap.size w w' := by
  have hi : Calls Tryd.prog 57 #[.int .i64 n] w fun e w' => e = .returned (.string ⟨(Lib.itoa n).toArray⟩) ∧ Below w.heap.size w w' := Calls.mono (Any.strconv_Itoa Tryd.lays171 n h0 h1 w hp) (by
    rintro e w' ⟨rfl, k, os, rfl⟩
    exact ⟨rfl, Lib.below_grow _ _ (Nat.le_refl _) k os⟩)
  generalize Lib.itoa n = D at *
  go_enter Tryd.func21, Tryd.ntmps21
  go_wp2_with (go_at_call 57; refine hi.mono ?_; clear hi; rintro e w1 ⟨rfl, hb1⟩; have HB1 : Hid (Below w.heap.size w w1) := hb1; clear hb1)
  go_ret
  exact ⟨rfl, HB1.out⟩
/-- A number's digits say it. -/
theorem dec_val : ∀ (n u : Nat), u ≤ n → (∀ b ∈ Lib.decDigits u, isD b) ∧ Lib.decDigits u ≠ [] ∧ valT (Lib.decDigits u) = u
  | n, u, h => by
    by_cases h10 : u < 10
    · rw [Lib.decDigits_one h10]
      have e : (UInt8.ofNat (48 + u)).toNat = 48 + u := by rw [UInt8.toNat_ofNat']; omega
      refine ⟨fun b hb => ?_, by simp, ?_⟩
      · rw [List.mem_singleton.1 hb]; unfold isD; omega
      · rw [valT_cons, e]; simp [valT]
    · cases n with
      | zero => omega
      | succ n =>
        obtain ⟨i1, i2, i3⟩ := dec_val n (u / 10) (by omega)
        have e : (UInt8.ofNat (48 + u % 10)).toNat = 48 + u % 10 := by rw [UInt8.toNat_ofNat']; omega
        have hd : Lib.decDigits u = Lib.decDigits (u / 10) ++ [UInt8.ofNat (48 + u % 10)] := by rw [Lib.decDigits, dif_neg h10]
        rw [hd]
        refine ⟨fun b hb => ?_, by simp, ?_⟩
        · rcases List.mem_append.1 hb with h1 | h1
          · exact i1 b h1
          · rw [List.mem_singleton.1 h1]; unfold isD; omega
        · rw [valT_append, i3, valT_cons, e]; simp [valT]; omega
theorem itoa_exp (n : Int) (h1 : -1000000 ≤ n) (h2 : n ≤ 1000000) : expR ⟨(Lib.itoa n).toArray⟩ = (n, true) := by
  unfold Lib.itoa
  split
  · obtain ⟨a, b, c⟩ := dec_val n.natAbs n.natAbs (Nat.le_refl _)
    have h := expR_minus a b (by rw [c]; omega)
    rw [h, c]
    congr 1
    omega
  · obtain ⟨a, b, c⟩ := dec_val n.toNat n.toNat (Nat.le_refl _)
    have h := expR_plain a b (by rw [c]; omega)
    rw [h, c]
    congr 1
    omega
/-- A whole number with an exponent is read as the nearest float. -/
theorem parse_whole {x : List UInt8} {k : Int} (hx : ∀ b ∈ x, isD b) (hne : x ≠ []) (hl : x.length ≤ 300) (h1 : -1000000 ≤ k) (h2 : k ≤ 1000000) : ∃ R, parseR ⟨(x ++ 101 :: Lib.itoa k).toArray⟩ = (R, 0) ∧ NearF (valT x * 10 ^ k.toNat) (10 ^ (-k).toNat) R := by
  obtain ⟨ds, h3, h4, h5⟩ := decR_whole hx hne (itoa_exp k h1 h2)
  have hil : (Lib.itoa k).length ≤ 21 := Lib.itoa_length_le k (by omega) (by omega)
  obtain ⟨b, t, rfl⟩ : ∃ b t, x = b :: t := by
    cases x with
    | nil => exact absurd rfl hne
    | cons b t => exact ⟨b, t, rfl⟩
  have hp := parse_digit (b := b) (t := t ++ 101 :: Lib.itoa k) (hx b (by simp)) (by simp at hl ⊢; omega)
  rw [List.cons_append] at h3 ⊢
  rw [hp, h3]
  refine ⟨nearN ds k, rfl, ?_⟩
  rw [← h4]
  exact nearN_near h5 k
end Go.Proofs.YtmlcilalmhpmiaaDoor

/- What comes in: the table of the powers of ten. -/
namespace Go.Proofs.YtmlcilalmhpmiaaDoor
open Go.ChangeShapes Go.WideShapes Go.ChangeAt Go.RowKit

theorem laid_pow {L : List (String × DataW Unit)} {W : World} (h : laidMet Tryd.prog L W) (hm : ("internal/strconv.uint64pow10", Rows.laid_internal_strconv_uint64pow10) ∈ L) : Pow W := by
  have e1 : (Rows.laid_internal_strconv_uint64pow10 : DataW Unit) = Lib.tabData .u64 Lib.pow10Tab := by kernel_rfl
  have h3 := Lib.laidMet.reads h (n := "internal/strconv.uint64pow10") (d := Rows.laid_internal_strconv_uint64pow10) hm
  rw [e1] at h3
  obtain ⟨g, t, cs, fuel, p, hg, hty, hvar, hd⟩ := h3
  obtain rfl := Option.some.inj ((show Tryd.prog.globalNamed "internal/strconv.uint64pow10" = some 4 by kernel_rfl).symm.trans hg)
  obtain rfl := Option.some.inj ((show (Tryd.prog.globals[4]?).map (·.type) = some 165 by kernel_rfl).symm.trans hty)
  have hcs := Lib.cells_of_tab Tryd.underlying165 Tryd.underlying25 (by kernel_rfl) (by kernel_rfl) hd
  unfold Pow Lib.TabIs
  rw [hvar, ← hcs]
theorem pow_of {W : World} (h : laidMetH Tryd.prog Rows.numTextRow.laid W) : Pow W := by
  rw [MakeChecks.laidMetH_plain _ _ _ (by kernel_rfl)] at h
  exact laid_pow h (.tail _ (.tail _ (.head _)))
theorem laid2 {W : World} (h : laidMetH Tryd.prog Rows.numTextRow.laid W) : Units W ∧ Pow W := ⟨laid_of h, pow_of h⟩
end Go.Proofs.YtmlcilalmhpmiaaDoor

/- Whole numbers: what is written, what is read (pure). -/
namespace Go.Proofs.YtmlcilalmhpmiaaDoor
open Go

theorem pu10 : ∀ (l : List UInt8) (acc : Nat), (∀ b ∈ l, isD b) → acc * 10 ^ l.length + valT l < 18446744073709551616 → Lib.parseUint10 acc l = .ok (acc * 10 ^ l.length + valT l)
  | [], acc, _, _ => by simp [Lib.parseUint10, valT]
  | b :: t, acc, h, hlt => by
    have hb := h b (by simp)
    unfold isD at hb
    rw [valT_cons, List.length_cons, Nat.pow_succ] at hlt ⊢
    have e : acc * (10 ^ t.length * 10) + ((b.toNat - 48) * 10 ^ t.length + valT t) = (acc * 10 + (b.toNat - 48)) * 10 ^ t.length + valT t := by
      rw [Nat.add_mul, Nat.mul_assoc, Nat.mul_comm 10, Nat.add_assoc]
    have hpos : 0 < 10 ^ t.length := Nat.pow_pos (by decide)
    rw [e] at hlt ⊢
    have h3 : acc * 10 + (b.toNat - 48) < 18446744073709551616 := by
      have : (acc * 10 + (b.toNat - 48)) * 1 ≤ (acc * 10 + (b.toNat - 48)) * 10 ^ t.length := Nat.mul_le_mul_left _ hpos
      omega
    rw [Lib.parseUint10, if_pos hb, if_neg (by omega), if_neg (by omega)]
    exact pu10 t _ (fun x hx => h x (by simp [hx])) hlt
theorem pmag {l : List UInt8} (h : ∀ b ∈ l, isD b) (hne : l ≠ []) (hlt : valT l < 18446744073709551616) : Lib.parseMag l = .ok (valT l) := by
  rw [Lib.parseMag, if_neg hne]
  have e := pu10 l 0 h (by omega)
  rw [e]
  simp
/-- What is written of a number is read as that number. -/
theorem atoi_itoa (n : Int) (h1 : -9223372036854775808 ≤ n) (h2 : n ≤ 9223372036854775807) : Lib.atoiAll (Lib.itoa n) = .ok n := by
  obtain ⟨i1, i2, i3⟩ := dec_val n.natAbs n.natAbs (Nat.le_refl _)
  have hm := pmag i1 i2 (by omega)
  unfold Lib.itoa
  by_cases hn : n < 0
  · rw [if_pos hn, Lib.atoiAll_minus, hm, i3]
    simp only [Lib.signed]
    rw [if_neg (by omega)]
    congr 1
    omega
  · rw [if_neg hn, show n.toNat = n.natAbs by omega]
    cases hd : Lib.decDigits n.natAbs with
    | nil => exact absurd hd i2
    | cons c r =>
      have hc := i1 c (by rw [hd]; simp)
      unfold isD at hc
      rw [Lib.atoiAll_plain c r (by omega) (by omega), ← hd, hm, i3]
      simp only [Lib.signless]
      rw [if_neg (by omega)]
      congr 1
      omega
theorem dec_lenk : ∀ (k u : Nat), u < 10 ^ (k + 1) → (Lib.decDigits u).length ≤ k + 1
  | k, u, h => by
    by_cases h10 : u < 10
    · rw [Lib.decDigits_one h10]; simp
    · have hd : Lib.decDigits u = Lib.decDigits (u / 10) ++ [UInt8.ofNat (48 + u % 10)] := by rw [Lib.decDigits, dif_neg h10]
      cases k with
      | zero => omega
      | succ k =>
        rw [Nat.pow_succ] at h
        have := dec_lenk k (u / 10) (by omega)
        rw [hd, List.length_append]
        simp
        omega
theorem valT_take (l : List UInt8) (k : Nat) : valT (l.take k) ≤ valT l := by
  have e : l = l.take k ++ l.drop k := (List.take_append_drop k l).symm
  have h := congrArg valT e
  rw [valT_append] at h
  have hp : 0 < 10 ^ (l.drop k).length := Nat.pow_pos (by decide)
  have := Nat.le_mul_of_pos_right (valT (l.take k)) hp
  omega
theorem valT_snoc (l : List UInt8) (k : Nat) (h : k < l.length) : valT (l.take (k + 1)) = valT (l.take k) * 10 + (l[k].toNat - 48) := by
  rw [List.take_succ_eq_append_getElem h, valT_append, valT_cons]
  simp [valT]
/-- The sign that a text begins with, and what stands behind it. -/
def SignCut (s t : ByteArray) (neg : Bool) : Prop := (neg = true ∧ s.data.toList = 45 :: t.data.toList) ∨ (neg = false ∧ s = t ∧ ∀ r, s.data.toList ≠ 45 :: r)
def inI (v : Int) : Prop := -9223372036854775808 ≤ v ∧ v ≤ 9223372036854775807
theorem itoa_cut {s t : ByteArray} {neg : Bool} {v : Int} (hc : SignCut s t neg) (h : s = ⟨(Lib.itoa v).toArray⟩) : t.data.toList = Lib.decDigits v.natAbs ∧ neg = decide (v < 0) := by
  have hl : s.data.toList = Lib.itoa v := by rw [h]
  obtain ⟨i1, i2, i3⟩ := dec_val v.natAbs v.natAbs (Nat.le_refl _)
  unfold Lib.itoa at hl
  by_cases hv : v < 0
  · rw [if_pos hv] at hl
    rcases hc with ⟨h1, h2⟩ | ⟨h1, h2, h3⟩
    · rw [h2] at hl
      exact ⟨(List.cons.inj hl).2, by rw [h1]; simp [hv]⟩
    · exact absurd hl (h3 _)
  · rw [if_neg hv, show v.toNat = v.natAbs by omega] at hl
    rcases hc with ⟨h1, h2⟩ | ⟨h1, h2, h3⟩
    · rw [h2] at hl
      have := i1 45 (by rw [← hl]; simp)
      unfold isD at this
      simp at this
    · rw [← h2]
      exact ⟨hl, by rw [h1]; simp [hv]⟩
/-- Where the document stops, no number is written. -/
theorem no_digit {s t : ByteArray} {neg : Bool} (hc : SignCut s t neg) {k : Nat} (hk : k < t.data.toList.length) (hd : ¬ isD t.data.toList[k]) (v : Int) : s ≠ ⟨(Lib.itoa v).toArray⟩ := fun h => by
  have h1 := (itoa_cut hc h).1
  obtain ⟨i1, i2, i3⟩ := dec_val v.natAbs v.natAbs (Nat.le_refl _)
  exact hd (i1 _ (by rw [← h1]; exact List.getElem_mem hk))
theorem no_long {s t : ByteArray} {neg : Bool} (hc : SignCut s t neg) (hk : 19 < t.data.toList.length) (v : Int) (hv : inI v) : s ≠ ⟨(Lib.itoa v).toArray⟩ := fun h => by
  have h1 := (itoa_cut hc h).1
  unfold inI at hv
  have := dec_lenk 18 v.natAbs (by omega)
  rw [h1] at hk
  omega
theorem no_great {s t : ByteArray} {neg : Bool} (hc : SignCut s t neg) {k : Nat} (hk : 9223372036854775808 < valT (t.data.toList.take k)) (v : Int) (hv : inI v) : s ≠ ⟨(Lib.itoa v).toArray⟩ := fun h => by
  have h1 := (itoa_cut hc h).1
  obtain ⟨i1, i2, i3⟩ := dec_val v.natAbs v.natAbs (Nat.le_refl _)
  unfold inI at hv
  have := valT_take t.data.toList k
  rw [h1, i3] at this
  rw [h1] at hk
  omega
theorem no_other {s t : ByteArray} {neg : Bool} (hc : SignCut s t neg) {n : Int} (hn : n = if neg then -(valT t.data.toList : Int) else valT t.data.toList) (hne : s ≠ ⟨(Lib.itoa n).toArray⟩) (v : Int) : s ≠ ⟨(Lib.itoa v).toArray⟩ := fun h => by
  obtain ⟨h1, h2⟩ := itoa_cut hc h
  obtain ⟨i1, i2, i3⟩ := dec_val v.natAbs v.natAbs (Nat.le_refl _)
  rw [h1, i3, h2] at hn
  apply hne
  rw [h]
  have : n = v := by
    rw [hn]
    by_cases hv : v < 0
    · simp [hv]; omega
    · simp [hv]; omega
  rw [this]
theorem no_empty {s t : ByteArray} {neg : Bool} (hc : SignCut s t neg) (h0 : t.data.toList = []) (v : Int) : s ≠ ⟨(Lib.itoa v).toArray⟩ := fun h => by
  have h1 := (itoa_cut hc h).1
  obtain ⟨i1, i2, i3⟩ := dec_val v.natAbs v.natAbs (Nat.le_refl _)
  exact i2 (h1.symm.trans h0)
theorem no_plain {s t : ByteArray} {neg : Bool} (hc : SignCut s t neg) (hn : neg = false) (hk : valT t.data.toList = 9223372036854775808) (v : Int) (hv : inI v) : s ≠ ⟨(Lib.itoa v).toArray⟩ := fun h => by
  obtain ⟨h1, h2⟩ := itoa_cut hc h
  obtain ⟨i1, i2, i3⟩ := dec_val v.natAbs v.natAbs (Nat.le_refl _)
  unfold inI at hv
  rw [h1, i3] at hk
  rw [hn] at h2
  have : ¬ v < 0 := by simpa using h2.symm
  omega
theorem quo_low (d : Nat) (hd : d ≤ 9) : (-9223372036854775808 + (d : Int)).tdiv 10 = -(((9223372036854775808 - d) / 10 : Nat) : Int) := by
  rw [show (-9223372036854775808 + (d : Int)) = -(((9223372036854775808 - d : Nat)) : Int) by omega, Int.neg_tdiv]
  congr 1
theorem getT (t : ByteArray) (k : Nat) (_h : k < t.size) (h' : k < t.data.toList.length) : t.data.toList[k] = t[k] := by
  simp
  rfl
end Go.Proofs.YtmlcilalmhpmiaaDoor
