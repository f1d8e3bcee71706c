/- Texts that belong together. -/
import Derived.Test.YtfckdleahljdeaaGreatDoorMQn
import Derived.Test.YtfckdleahljdeaaGreatDoorSq
import Derived.Lib.AtoiAllCases
/- Whole numbers as texts. -/
namespace Go.Proofs.YtfckdleahljdeaaGreatDoor.Nu
open Go.RowKit Go.Maps

set_option maxRecDepth 100000 in
theorem intText_any (n : Int) (w : World) (h0 : -9223372036854775808 ≤ n) (h1 : n ≤ 9223372036854775807) (hp : Pow w) : Calls Tryz.prog 63 #[.int .i64 n] w fun e w' => e = .returned (.string ⟨(Lib.itoa n).toArray⟩) ∧ Below w.heap.size w w' := by
  have hi : Calls Tryz.prog 94 #[.int .i64 n] w fun e w' => e = .returned (.string ⟨(Lib.itoa n).toArray⟩) ∧ Below w.heap.size w w' := Calls.mono (Any.strconv_Itoa Tryz.lays171 n h0 h1 w hp) (by
    rintro e w' ⟨rfl, k, os, rfl⟩
    exact ⟨rfl, Lib.below_grow _ _ (Nat.le_refl _) k os⟩)
  generalize Lib.itoa n = D at *
  go_enter Tryz.func63, Tryz.ntmps63
  go_wp2_with (go_at_call 94; refine hi.mono ?_; clear hi; rintro e w1 ⟨rfl, hb1⟩; have HB1 : Hid (Below w.heap.size w w1) := hb1; clear hb1)
  go_ret
  exact ⟨rfl, HB1.out⟩
end Go.Proofs.YtfckdleahljdeaaGreatDoor.Nu

/- Whole numbers: what is written, what is read (pure). -/
namespace Go.Proofs.YtfckdleahljdeaaGreatDoor.Nu
open Go

theorem pu10 : ∀ (l : List UInt8) (acc : Nat), (∀ b ∈ l, isD b) → acc * 10 ^ l.length + valT l < 18446744073709551616 → Lib.parseUint10 acc l = .ok (acc * 10 ^ l.length + valT l)
  | [], acc, _, _ => by simp [Lib.parseUint10, valT]
  | b :: t, acc, h, hlt => by
    have hb := h b (by simp)
    unfold isD at hb
    rw [valT_cons, List.length_cons, Nat.pow_succ] at hlt ⊢
    have e : acc * (10 ^ t.length * 10) + ((b.toNat - 48) * 10 ^ t.length + valT t) = (acc * 10 + (b.toNat - 48)) * 10 ^ t.length + valT t := by
      rw [Nat.add_mul, Nat.mul_assoc, Nat.mul_comm 10, Nat.add_assoc]
    have hpos : 0 < 10 ^ t.length := Nat.pow_pos (by decide)
    rw [e] at hlt ⊢
    have h3 : acc * 10 + (b.toNat - 48) < 18446744073709551616 := by
      have : (acc * 10 + (b.toNat - 48)) * 1 ≤ (acc * 10 + (b.toNat - 48)) * 10 ^ t.length := Nat.mul_le_mul_left _ hpos
      omega
    rw [Lib.parseUint10, if_pos hb, if_neg (by omega), if_neg (by omega)]
    exact pu10 t _ (fun x hx => h x (by simp [hx])) hlt
theorem pmag {l : List UInt8} (h : ∀ b ∈ l, isD b) (hne : l ≠ []) (hlt : valT l < 18446744073709551616) : Lib.parseMag l = .ok (valT l) := by
  rw [Lib.parseMag, if_neg hne]
  have e := pu10 l 0 h (by omega)
  rw [e]
  simp
/-- What is written of a number is read as that number. -/
theorem atoi_itoa (n : Int) (h1 : -9223372036854775808 ≤ n) (h2 : n ≤ 9223372036854775807) : Lib.atoiAll (Lib.itoa n) = .ok n := by
  obtain ⟨i1, i2, i3⟩ := dec_val n.natAbs n.natAbs (Nat.le_refl _)
  have hm := pmag i1 i2 (by omega)
  unfold Lib.itoa
  by_cases hn : n < 0
  · rw [if_pos hn, Lib.atoiAll_minus, hm, i3]
    simp only [Lib.signed]
    rw [if_neg (by omega)]
    congr 1
    omega
  · rw [if_neg hn, show n.toNat = n.natAbs by omega]
    cases hd : Lib.decDigits n.natAbs with
    | nil => exact absurd hd i2
    | cons c r =>
      have hc := i1 c (by rw [hd]; simp)
      unfold isD at hc
      rw [Lib.atoiAll_plain c r (by omega) (by omega), ← hd, hm, i3]
      simp only [Lib.signless]
      rw [if_neg (by omega)]
      congr 1
      omega
theorem dec_lenk : ∀ (k u : Nat), u < 10 ^ (k + 1) → (Lib.decDigits u).length ≤ k + 1
  | k, u, h => by
    by_cases h10 : u < 10
    · rw [Lib.decDigits_one h10]; simp
    · have hd : Lib.decDigits u = Lib.decDigits (u / 10) ++ [UInt8.ofNat (48 + u % 10)] := by rw [Lib.decDigits, dif_neg h10]
      cases k with
      | zero => omega
      | succ k =>
        rw [Nat.pow_succ] at h
        have := dec_lenk k (u / 10) (by omega)
        rw [hd, List.length_append]
        simp
        omega
theorem valT_take (l : List UInt8) (k : Nat) : valT (l.take k) ≤ valT l := by
  have e : l = l.take k ++ l.drop k := (List.take_append_drop k l).symm
  have h := congrArg valT e
  rw [valT_append] at h
  have hp : 0 < 10 ^ (l.drop k).length := Nat.pow_pos (by decide)
  have := Nat.le_mul_of_pos_right (valT (l.take k)) hp
  omega
theorem valT_snoc (l : List UInt8) (k : Nat) (h : k < l.length) : valT (l.take (k + 1)) = valT (l.take k) * 10 + (l[k].toNat - 48) := by
  rw [List.take_succ_eq_append_getElem h, valT_append, valT_cons]
  simp [valT]
/-- The sign that a text begins with, and what stands behind it. -/
def SignCut (s t : ByteArray) (neg : Bool) : Prop := (neg = true ∧ s.data.toList = 45 :: t.data.toList) ∨ (neg = false ∧ s = t ∧ ∀ r, s.data.toList ≠ 45 :: r)
def inI (v : Int) : Prop := -9223372036854775808 ≤ v ∧ v ≤ 9223372036854775807
theorem itoa_cut {s t : ByteArray} {neg : Bool} {v : Int} (hc : SignCut s t neg) (h : s = ⟨(Lib.itoa v).toArray⟩) : t.data.toList = Lib.decDigits v.natAbs ∧ neg = decide (v < 0) := by
  have hl : s.data.toList = Lib.itoa v := by rw [h]
  obtain ⟨i1, i2, i3⟩ := dec_val v.natAbs v.natAbs (Nat.le_refl _)
  unfold Lib.itoa at hl
  by_cases hv : v < 0
  · rw [if_pos hv] at hl
    rcases hc with ⟨h1, h2⟩ | ⟨h1, h2, h3⟩
    · rw [h2] at hl
      exact ⟨(List.cons.inj hl).2, by rw [h1]; simp [hv]⟩
    · exact absurd hl (h3 _)
  · rw [if_neg hv, show v.toNat = v.natAbs by omega] at hl
    rcases hc with ⟨h1, h2⟩ | ⟨h1, h2, h3⟩
    · rw [h2] at hl
      have := i1 45 (by rw [← hl]; simp)
      unfold isD at this
      simp at this
    · rw [← h2]
      exact ⟨hl, by rw [h1]; simp [hv]⟩
/-- Where the document stops, no number is written. -/
theorem no_digit {s t : ByteArray} {neg : Bool} (hc : SignCut s t neg) {k : Nat} (hk : k < t.data.toList.length) (hd : ¬ isD t.data.toList[k]) (v : Int) : s ≠ ⟨(Lib.itoa v).toArray⟩ := fun h => by
  have h1 := (itoa_cut hc h).1
  obtain ⟨i1, i2, i3⟩ := dec_val v.natAbs v.natAbs (Nat.le_refl _)
  exact hd (i1 _ (by rw [← h1]; exact List.getElem_mem hk))
theorem no_long {s t : ByteArray} {neg : Bool} (hc : SignCut s t neg) (hk : 19 < t.data.toList.length) (v : Int) (hv : inI v) : s ≠ ⟨(Lib.itoa v).toArray⟩ := fun h => by
  have h1 := (itoa_cut hc h).1
  unfold inI at hv
  have := dec_lenk 18 v.natAbs (by omega)
  rw [h1] at hk
  omega
theorem no_great {s t : ByteArray} {neg : Bool} (hc : SignCut s t neg) {k : Nat} (hk : 9223372036854775808 < valT (t.data.toList.take k)) (v : Int) (hv : inI v) : s ≠ ⟨(Lib.itoa v).toArray⟩ := fun h => by
  have h1 := (itoa_cut hc h).1
  obtain ⟨i1, i2, i3⟩ := dec_val v.natAbs v.natAbs (Nat.le_refl _)
  unfold inI at hv
  have := valT_take t.data.toList k
  rw [h1, i3] at this
  rw [h1] at hk
  omega
theorem no_other {s t : ByteArray} {neg : Bool} (hc : SignCut s t neg) {n : Int} (hn : n = if neg then -(valT t.data.toList : Int) else valT t.data.toList) (hne : s ≠ ⟨(Lib.itoa n).toArray⟩) (v : Int) : s ≠ ⟨(Lib.itoa v).toArray⟩ := fun h => by
  obtain ⟨h1, h2⟩ := itoa_cut hc h
  obtain ⟨i1, i2, i3⟩ := dec_val v.natAbs v.natAbs (Nat.le_refl _)
  rw [h1, i3, h2] at hn
  apply hne
  rw [h]
  have : n = v := by
    rw [hn]
    by_cases hv : v < 0
    · simp [hv]; omega
    · simp [hv]; omega
  rw [this]
theorem no_empty {s t : ByteArray} {neg : Bool} (hc : SignCut s t neg) (h0 : t.data.toList = []) (v : Int) : s ≠ ⟨(Lib.itoa v).toArray⟩ := fun h => by
  have h1 := (itoa_cut hc h).1
  obtain ⟨i1, i2, i3⟩ := dec_val v.natAbs v.natAbs (Nat.le_refl _)
  exact i2 (h1.symm.trans h0)
theorem no_plain {s t : ByteArray} {neg : Bool} (hc : SignCut s t neg) (hn : neg = false) (hk : valT t.data.toList = 9223372036854775808) (v : Int) (hv : inI v) : s ≠ ⟨(Lib.itoa v).toArray⟩ := fun h => by
  obtain ⟨h1, h2⟩ := itoa_cut hc h
  obtain ⟨i1, i2, i3⟩ := dec_val v.natAbs v.natAbs (Nat.le_refl _)
  unfold inI at hv
  rw [h1, i3] at hk
  rw [hn] at h2
  have : ¬ v < 0 := by simpa using h2.symm
  omega
theorem quo_low (d : Nat) (hd : d ≤ 9) : (-9223372036854775808 + (d : Int)).tdiv 10 = -(((9223372036854775808 - d) / 10 : Nat) : Int) := by
  rw [show (-9223372036854775808 + (d : Int)) = -(((9223372036854775808 - d : Nat)) : Int) by omega, Int.neg_tdiv]
  congr 1
theorem getT (t : ByteArray) (k : Nat) (_h : k < t.size) (h' : k < t.data.toList.length) : t.data.toList[k] = t[k] := by
  simp
  rfl
end Go.Proofs.YtfckdleahljdeaaGreatDoor.Nu
