/- Whole numbers as texts. -/
import Derived.Test.YtididjnijadphaaDoorMFo
import Derived.Test.YtididjnijadphaaDoorMPp
import Derived.Test.YtididjnijadphaaDoorSq
import Derived.Lib.AppendIntMem
import Derived.Lib.LaidTab
namespace Go.Proofs.YtididjnijadphaaDoor
open Go.RowKit Go.Maps

/-- The table of the powers of ten, as the library lays it. -/
def Pow (w : World) : Prop := Lib.TabIs Tryd.prog w "internal/strconv.uint64pow10" .u64 Lib.pow10Tab
theorem Pow.below {w w' : World} (h : Pow w) (hb : Below w.heap.size w w') : Pow w' := by
  have hg : Tryd.prog.globalNamed "internal/strconv.uint64pow10" = some 2 := by kernel_rfl
  unfold Pow Lib.TabIs World.var? at h ⊢
  rw [hg] at h ⊢
  simp only [Option.bind_some] at h ⊢
  have hlt : 2 < w.heap.size := by
    rcases Nat.lt_or_ge 2 w.heap.size with h' | h'
    · exact h'
    · rw [Array.getElem?_eq_none h'] at h; cases h
  rw [hb.block _ hlt]
  exact h
set_option maxRecDepth 100000 in
theorem intText_any (n : Int) (w : World) (h0 : -9223372036854775808 ≤ n) (h1 : n ≤ 9223372036854775807) (hp : Pow w) : Calls Tryd.prog 12 #[.int .i64 n] w fun e w' => e = .returned (.string ⟨(Lib.itoa n).toArray⟩) ∧ Below w.heap.size w w' := by
  have hi : Calls Tryd.prog 27 #[.int .i64 n] w fun e w' => e = .returned (.string ⟨(Lib.itoa n).toArray⟩) ∧ Below w.heap.size w w' := Calls.mono (Any.strconv_Itoa Tryd.lays171 n h0 h1 w hp) (by
    rintro e w' ⟨rfl, k, os, rfl⟩
    exact ⟨rfl, Lib.below_grow _ _ (Nat.le_refl _) k os⟩)
  generalize Lib.itoa n = D at *
  go_enter Tryd.func12, Tryd.ntmps12
  go_wp2_with (go_at_call 27; refine hi.mono ?_; clear hi; rintro e w1 ⟨rfl, hb1⟩; have HB1 : Hid (Below w.heap.size w w1) := hb1; clear hb1)
  go_ret
  exact ⟨rfl, HB1.out⟩
/-- A number's digits say it. -/
theorem dec_val : ∀ (n u : Nat), u ≤ n → (∀ b ∈ Lib.decDigits u, isD b) ∧ Lib.decDigits u ≠ [] ∧ valT (Lib.decDigits u) = u
  | n, u, h => by
    by_cases h10 : u < 10
    · rw [Lib.decDigits_one h10]
      have e : (UInt8.ofNat (48 + u)).toNat = 48 + u := by rw [UInt8.toNat_ofNat']; omega
      refine ⟨fun b hb => ?_, by simp, ?_⟩
      · rw [List.mem_singleton.1 hb]; unfold isD; omega
      · rw [valT_cons, e]; simp [valT]
    · cases n with
      | zero => omega
      | succ n =>
        obtain ⟨i1, i2, i3⟩ := dec_val n (u / 10) (by omega)
        have e : (UInt8.ofNat (48 + u % 10)).toNat = 48 + u % 10 := by rw [UInt8.toNat_ofNat']; omega
        have hd : Lib.decDigits u = Lib.decDigits (u / 10) ++ [UInt8.ofNat (48 + u % 10)] := by rw [Lib.decDigits, dif_neg h10]
        rw [hd]
        refine ⟨fun b hb => ?_, by simp, ?_⟩
        · rcases List.mem_append.1 hb with h1 | h1
          · exact i1 b h1
          · rw [List.mem_singleton.1 h1]; unfold isD; omega
        · rw [valT_append, i3, valT_cons, e]; simp [valT]; omega
theorem itoa_exp (n : Int) (h1 : -1000000 ≤ n) (h2 : n ≤ 1000000) : expR ⟨(Lib.itoa n).toArray⟩ = (n, true) := by
  unfold Lib.itoa
  split
  · obtain ⟨a, b, c⟩ := dec_val n.natAbs n.natAbs (Nat.le_refl _)
    have h := expR_minus a b (by rw [c]; omega)
    rw [h, c]
    congr 1
    omega
  · obtain ⟨a, b, c⟩ := dec_val n.toNat n.toNat (Nat.le_refl _)
    have h := expR_plain a b (by rw [c]; omega)
    rw [h, c]
    congr 1
    omega
/-- A whole number with an exponent is read as the nearest float. -/
theorem parse_whole {x : List UInt8} {k : Int} (hx : ∀ b ∈ x, isD b) (hne : x ≠ []) (hl : x.length ≤ 300) (h1 : -1000000 ≤ k) (h2 : k ≤ 1000000) : ∃ R, parseR ⟨(x ++ 101 :: Lib.itoa k).toArray⟩ = (R, 0) ∧ NearF (valT x * 10 ^ k.toNat) (10 ^ (-k).toNat) R := by
  obtain ⟨ds, h3, h4, h5⟩ := decR_whole hx hne (itoa_exp k h1 h2)
  have hil : (Lib.itoa k).length ≤ 21 := Lib.itoa_length_le k (by omega) (by omega)
  obtain ⟨b, t, rfl⟩ : ∃ b t, x = b :: t := by
    cases x with
    | nil => exact absurd rfl hne
    | cons b t => exact ⟨b, t, rfl⟩
  have hp := parse_digit (b := b) (t := t ++ 101 :: Lib.itoa k) (hx b (by simp)) (by simp at hl ⊢; omega)
  rw [List.cons_append] at h3 ⊢
  rw [hp, h3]
  refine ⟨nearN ds k, rfl, ?_⟩
  rw [← h4]
  exact nearN_near h5 k
end Go.Proofs.YtididjnijadphaaDoor
