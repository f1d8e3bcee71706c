/- Texts that belong together. -/
import Derived.Test.YtinfnkhghmcelaaDoorMDv
import Derived.Test.YtinfnkhghmcelaaDoorMDe
import Derived.Test.YtinfnkhghmcelaaDoorMPp
import Derived.Lib.AppendIntMem
import Derived.Lib.LaidTab
/- wakes. -/
namespace Go.Proofs.YtinfnkhghmcelaaDoor
open Go.RowKit Go.Maps

theorem dur_left (k : Nat) (u : List UInt8 × Nat) (h : unitsL[k]? = some u) : (durK 90000 k).2 / u.2 < 100 := by
  have hk : k < 7 := by
    have := (List.getElem?_eq_some_iff.1 h).1
    exact this
  rcases (show k = 0 ∨ k = 1 ∨ k = 2 ∨ k = 3 ∨ k = 4 ∨ k = 5 ∨ k = 6 by omega) with rfl | rfl | rfl | rfl | rfl | rfl | rfl <;> (simp [unitsL] at h; subst h; simp [durK, unitsL, durS])
theorem dur_wakes : (durK 90000 7).1 = [49, 109, 51, 48, 115] := by
  simp [durK, unitsL, durS, Lib.decDigits_one (show 1 < 10 by decide), Lib.decDigits_two (show ¬ 30 < 10 by decide) (show 30 < 100 by decide)]

set_option maxRecDepth 100000 in
theorem wakes_any (w : World) (hU : Units w) : Calls Tryd.prog 9 #[] w fun e w' => e = .returned (.bool true) ∧ Below w.heap.size w w' := by
  have hp := parse_any ⟨#[50, 46, 53, 101, 45, 49]⟩ w (by decide)
  rw [parse_wakes] at hp
  have HT : Hid (∀ W : World, Calls Tryd.prog 13 #[.float .f64 4591870180066957722] W fun e w' => e = .returned (.string ⟨#[48, 46, 49]⟩) ∧ Below W.heap.size W w') := fun W => text_tenth W
  have HD : Hid (∀ W : World, Units W → Calls Tryd.prog 31 #[.int .i64 90000] W fun e w' => e = .returned (.string ⟨#[49, 109, 51, 48, 115]⟩) ∧ Below W.heap.size W w') := fun W h => by
    have h9 := dur_pos 90000 90000 100 W (by decide) h (fun i hi W _ => fu_small i hi W) dur_left (by decide) rfl (by decide) (by decide)
    rw [dur_wakes] at h9
    exact h9
  have heq : FloatKind.f64.format.order 4598175219545276416 4598175219545276416 = some .eq := by kernel_rfl
  have HU : Hid (Units w) := hU
  clear hU
  go_enter Tryd.func9, Tryd.ntmps9
  go_wp2_with (first
    | (go_at_call 6; refine hp.mono ?_; clear hp; rintro e w1 ⟨rfl, hb1⟩; have HB1 : Hid (Below w.heap.size w w1) := hb1; clear hb1)
    | (go_at_call 13; refine (HT.out _).mono ?_; clear HT; rintro e w2 ⟨rfl, hb2⟩; have HB2 : Hid (Below w.heap.size w w2) := HB1.out.trans (hb2.mono HB1.out.size); clear hb2)
    | (go_at_call 31; refine (HD.out _ (HU.out.below HB2.out)).mono ?_; clear HD; rintro e w3 ⟨rfl, hb3⟩; have HB3 : Hid (Below w.heap.size w w3) := HB2.out.trans (hb3.mono HB2.out.size); clear hb3))
  go_ret
  exact ⟨rfl, HB3.out⟩
end Go.Proofs.YtinfnkhghmcelaaDoor

/- Whole numbers as digits; the table of the powers of ten. -/
namespace Go.Proofs.YtinfnkhghmcelaaDoor
open Go.RowKit Go.Maps

/-- The table of the powers of ten, as the library lays it. -/
def Pow (w : World) : Prop := Lib.TabIs Tryd.prog w "internal/strconv.uint64pow10" .u64 Lib.pow10Tab
theorem Pow.below {w w' : World} (h : Pow w) (hb : Below w.heap.size w w') : Pow w' := by
  have hg : Tryd.prog.globalNamed "internal/strconv.uint64pow10" = some 2 := by kernel_rfl
  unfold Pow Lib.TabIs World.var? at h ⊢
  rw [hg] at h ⊢
  simp only [Option.bind_some] at h ⊢
  have hlt : 2 < w.heap.size := by
    rcases Nat.lt_or_ge 2 w.heap.size with h' | h'
    · exact h'
    · rw [Array.getElem?_eq_none h'] at h; cases h
  rw [hb.block _ hlt]
  exact h
/-- A number's digits say it. -/
theorem dec_val : ∀ (n u : Nat), u ≤ n → (∀ b ∈ Lib.decDigits u, isD b) ∧ Lib.decDigits u ≠ [] ∧ valT (Lib.decDigits u) = u
  | n, u, h => by
    by_cases h10 : u < 10
    · rw [Lib.decDigits_one h10]
      have e : (UInt8.ofNat (48 + u)).toNat = 48 + u := by rw [UInt8.toNat_ofNat']; omega
      refine ⟨fun b hb => ?_, by simp, ?_⟩
      · rw [List.mem_singleton.1 hb]; unfold isD; omega
      · rw [valT_cons, e]; simp [valT]
    · cases n with
      | zero => omega
      | succ n =>
        obtain ⟨i1, i2, i3⟩ := dec_val n (u / 10) (by omega)
        have e : (UInt8.ofNat (48 + u % 10)).toNat = 48 + u % 10 := by rw [UInt8.toNat_ofNat']; omega
        have hd : Lib.decDigits u = Lib.decDigits (u / 10) ++ [UInt8.ofNat (48 + u % 10)] := by rw [Lib.decDigits, dif_neg h10]
        rw [hd]
        refine ⟨fun b hb => ?_, by simp, ?_⟩
        · rcases List.mem_append.1 hb with h1 | h1
          · exact i1 b h1
          · rw [List.mem_singleton.1 h1]; unfold isD; omega
        · rw [valT_append, i3, valT_cons, e]; simp [valT]; omega
theorem itoa_exp (n : Int) (h1 : -1000000 ≤ n) (h2 : n ≤ 1000000) : expR ⟨(Lib.itoa n).toArray⟩ = (n, true) := by
  unfold Lib.itoa
  split
  · obtain ⟨a, b, c⟩ := dec_val n.natAbs n.natAbs (Nat.le_refl _)
    have h := expR_minus a b (by rw [c]; omega)
    rw [h, c]
    congr 1
    omega
  · obtain ⟨a, b, c⟩ := dec_val n.toNat n.toNat (Nat.le_refl _)
    have h := expR_plain a b (by rw [c]; omega)
    rw [h, c]
    congr 1
    omega
/-- A whole number with an exponent is read as the nearest float. -/
theorem parse_whole {x : List UInt8} {k : Int} (hx : ∀ b ∈ x, isD b) (hne : x ≠ []) (hl : x.length ≤ 300) (h1 : -1000000 ≤ k) (h2 : k ≤ 1000000) : ∃ R, parseR ⟨(x ++ 101 :: Lib.itoa k).toArray⟩ = (R, 0) ∧ NearF (valT x * 10 ^ k.toNat) (10 ^ (-k).toNat) R := by
  obtain ⟨ds, h3, h4, h5⟩ := decR_whole hx hne (itoa_exp k h1 h2)
  have hil : (Lib.itoa k).length ≤ 21 := Lib.itoa_length_le k (by omega) (by omega)
  obtain ⟨b, t, rfl⟩ : ∃ b t, x = b :: t := by
    cases x with
    | nil => exact absurd rfl hne
    | cons b t => exact ⟨b, t, rfl⟩
  have hp := parse_digit (b := b) (t := t ++ 101 :: Lib.itoa k) (hx b (by simp)) (by simp at hl ⊢; omega)
  rw [List.cons_append] at h3 ⊢
  rw [hp, h3]
  refine ⟨nearN ds k, rfl, ?_⟩
  rw [← h4]
  exact nearN_near h5 k
end Go.Proofs.YtinfnkhghmcelaaDoor
