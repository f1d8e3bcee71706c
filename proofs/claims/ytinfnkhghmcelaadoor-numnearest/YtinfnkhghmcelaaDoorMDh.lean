/- Texts that belong together. -/
import Derived.Test.YtinfnkhghmcelaaDoorMDe
/- A number without its sign. -/
namespace Go.Proofs.YtinfnkhghmcelaaDoor
open Go.RowKit Go.Maps

set_option maxRecDepth 100000 in
theorem size_any (n : Int) (w : World) (h1 : -9223372036854775808 ≤ n) (h2 : n ≤ 9223372036854775807) : Calls Tryd.prog 55 #[.int .i64 n] w fun e w' => e = .returned (.int .u64 (n.natAbs : Nat)) ∧ w' = w := by
  by_cases h0 : n < 0
  · have HE : Hid (((n.natAbs : Nat) : Int) = IntKind.u64.wrap (-IntKind.u64.wrap n)) := by
      show _ = _
      rw [wrapU, wrapU]
      omega
    go_enter Tryd.func55, Tryd.ntmps55
    go_wp2
    go_ret
    exact ⟨by rw [HE.out]; rfl, rfl⟩
  · have HE : Hid (((n.natAbs : Nat) : Int) = n) := by
      show _ = _
      omega
    go_enter Tryd.func55, Tryd.ntmps55
    go_wp2
    go_ret
    exact ⟨by rw [HE.out]; rfl, rfl⟩

theorem ret_ui {a b c d : Int} (h1 : a = b) (h2 : c = d) : Ending.returned (.tuple #[.int .u64 a, .int .i64 c]) = .returned (.tuple #[.int .u64 b, .int .i64 d]) := by rw [h1, h2]
/-- The count and the power of two of a float's bits, which have no sign. -/
def apartN (raw : Nat) : Nat × Int := if raw / 4503599627370496 = 0 then (raw % 4503599627370496, -1074) else (raw % 4503599627370496 + 4503599627370496, ((raw / 4503599627370496 : Nat) : Int) - 1 + -1074)

set_option maxRecDepth 100000 in
theorem apart_any (raw : Nat) (w : World) (h : raw < 9223372036854775808) : Calls Tryd.prog 32 #[.int .u64 raw] w fun e w' => e = .returned (.tuple #[.int .u64 (apartN raw).1, .int .i64 (apartN raw).2]) ∧ w' = w := by
  obtain ⟨m, hm⟩ : ∃ m, m = raw % 4503599627370496 := ⟨_, rfl⟩
  have hand : bits .and .u64 (raw : Int) 4503599627370495 = (m : Int) := by
    have h1 := u64_and_nat raw 4503599627370495 (by omega) (by decide)
    have e : raw &&& 4503599627370495 = m := by rw [hm]; exact Nat.and_two_pow_sub_one_eq_mod raw 52
    rw [e] at h1
    exact h1
  have hor : bits .or .u64 (m : Int) 4503599627370496 = ((m + 4503599627370496 : Nat) : Int) := by
    have h1 := u64_or_nat m 4503599627370496 (by omega) (by decide)
    have e : 4503599627370496 ||| m = 4503599627370496 + m := nat_join 52 4503599627370496 m (by decide) (by omega)
    rw [Nat.or_comm, e, Nat.add_comm] at h1
    exact h1
  by_cases h0 : raw / 4503599627370496 = 0
  · have HE : Hid (apartN raw = (m, -1074)) := by show _ = _; unfold apartN; rw [if_pos h0, hm]
    have h0' : (raw : Int) / 4503599627370496 = 0 := by omega
    clear hm h0
    go_enter Tryd.func32, Tryd.ntmps32
    go_wp2
    go_ret2
    exact ⟨by rw [HE.out]; rfl, rfl⟩
  · have HE : Hid (apartN raw = (m + 4503599627370496, ((raw / 4503599627370496 : Nat) : Int) - 1 + -1074)) := by show _ = _; unfold apartN; rw [if_neg h0, hm]
    have h0' : ((raw : Int) / 4503599627370496 == 0) = false := by rw [beq_eq_false_iff_ne]; omega
    clear hm h0
    go_enter Tryd.func32, Tryd.ntmps32
    go_wp2
    go_ret2
    exact ⟨by rw [HE.out]; exact ret_ui (by simp) (by simp), rfl⟩

end Go.Proofs.YtinfnkhghmcelaaDoor

/- The shortest digits, as numbers. -/
namespace Go.Proofs.YtinfnkhghmcelaaDoor

def downB (r b : Nat) (cl : Bool) : Bool := decide (r < b) || (decide (r = b) && cl)
def upB (r a w : Nat) (cl : Bool) : Bool := decide (w < r + a) || (decide (w = r + a) && cl)
def nearB (r w d : Nat) : Bool := decide (2 * r < w) || (decide (2 * r = w) && decide (d % 2 = 0))
/-- The digits of v / w behind the point, until they, or those one greater, are within b below and a above. -/
def shortF : Nat → Nat → Nat → Nat → Nat → Bool → Option (List UInt8)
  | 0, _, _, _, _, _ => none
  | n + 1, v, b, a, w, cl =>
    if upB (v * 10 % w) (a * 10) w cl && !(downB (v * 10 % w) (b * 10) cl && nearB (v * 10 % w) w (v * 10 / w)) then some [UInt8.ofNat (49 + v * 10 / w)]
    else if downB (v * 10 % w) (b * 10) cl then some [UInt8.ofNat (48 + v * 10 / w)]
    else (shortF n (v * 10 % w) (b * 10) (a * 10) w cl).map (fun l => UInt8.ofNat (48 + v * 10 / w) :: l)
theorem shortF_mono : ∀ (n k v b a w : Nat) (cl : Bool) (l : List UInt8), shortF n v b a w cl = some l → shortF (n + k) v b a w cl = some l
  | 0, _, _, _, _, _, _, _, h => by cases h
  | n + 1, k, v, b, a, w, cl, l, h => by
    rw [Nat.add_right_comm]
    unfold shortF at h ⊢
    split
    · rename_i h1; rw [if_pos h1] at h; exact h
    · rename_i h1
      rw [if_neg h1] at h
      split
      · rename_i h2; rw [if_pos h2] at h; exact h
      · rename_i h2
        rw [if_neg h2] at h
        obtain ⟨t, ht, rfl⟩ := Option.map_eq_some_iff.1 h
        rw [shortF_mono n k _ _ _ _ _ t ht]
        rfl
theorem shortF_one {n m v b a w : Nat} {cl : Bool} {l l' : List UInt8} (h : shortF n v b a w cl = some l) (h' : shortF m v b a w cl = some l') : l = l' := by
  have h1 := shortF_mono n m v b a w cl l h
  have h2 := shortF_mono m n v b a w cl l' h'
  rw [Nat.add_comm m n, h1] at h2
  injection h2
theorem shortF_ends : ∀ (n v b a w : Nat) (cl : Bool), 0 < w → w < b * 10 ^ (n + 1) → ∃ l, shortF (n + 1) v b a w cl = some l
  | n, v, b, a, w, cl, hw, h => by
    unfold shortF
    split
    · exact ⟨_, rfl⟩
    · split
      · exact ⟨_, rfl⟩
      · rename_i h2
        have hr : v * 10 % w < w := Nat.mod_lt _ hw
        cases n with
        | zero =>
          exfalso
          apply h2
          unfold downB
          have : v * 10 % w < b * 10 := by omega
          simp [this]
        | succ n =>
          have h3 : w < (b * 10) * 10 ^ (n + 1) := by
            rw [Nat.mul_assoc, Nat.mul_comm 10, ← Nat.pow_succ]
            exact h
          obtain ⟨l, hl⟩ := shortF_ends n (v * 10 % w) (b * 10) (a * 10) w cl hw h3
          exact ⟨_, by rw [hl]; rfl⟩
/-- All digits but the last are at most 9, the last is at most ten, if the number is below 1. -/
theorem shortF_good : ∀ (n v b a w : Nat) (cl : Bool) (l : List UInt8), v < w → shortF n v b a w cl = some l → l ≠ [] ∧ ∀ d ∈ l, 48 ≤ d.toNat ∧ d.toNat ≤ 58
  | 0, _, _, _, _, _, _, _, h => by cases h
  | n + 1, v, b, a, w, cl, l, hv, h => by
    have hq : v * 10 / w ≤ 9 := by
      have : v * 10 / w < 10 := Nat.div_lt_of_lt_mul (by omega)
      omega
    have e48 : 48 ≤ (UInt8.ofNat (48 + v * 10 / w)).toNat ∧ (UInt8.ofNat (48 + v * 10 / w)).toNat ≤ 58 := by
      generalize v * 10 / w = q at *
      rw [UInt8.toNat_ofNat']; omega
    have e49 : 48 ≤ (UInt8.ofNat (49 + v * 10 / w)).toNat ∧ (UInt8.ofNat (49 + v * 10 / w)).toNat ≤ 58 := by
      generalize v * 10 / w = q at *
      rw [UInt8.toNat_ofNat']; omega
    unfold shortF at h
    split at h
    · injection h with h; subst h
      refine ⟨by simp, fun d hd => ?_⟩
      rw [List.mem_singleton.1 hd]; exact e49
    · split at h
      · injection h with h; subst h
        refine ⟨by simp, fun d hd => ?_⟩
        rw [List.mem_singleton.1 hd]; exact e48
      · obtain ⟨t, ht, rfl⟩ := Option.map_eq_some_iff.1 h
        have h9 := shortF_good n _ _ _ _ _ t (Nat.mod_lt _ (by omega)) ht
        refine ⟨by simp, fun d hd => ?_⟩
        rcases List.mem_cons.1 hd with rfl | h1
        · exact e48
        · exact h9.2 d h1
theorem shortF_len : ∀ (n v b a w : Nat) (cl : Bool) (l : List UInt8), shortF n v b a w cl = some l → l.length ≤ n
  | 0, _, _, _, _, _, _, h => by cases h
  | n + 1, v, b, a, w, cl, l, h => by
    unfold shortF at h
    split at h
    · injection h with h; subst h; simp
    · split at h
      · injection h with h; subst h; simp
      · obtain ⟨t, ht, rfl⟩ := Option.map_eq_some_iff.1 h
        have h9 := shortF_len n _ _ _ _ _ t ht
        simp; omega

/-- The power of ten that is looked at first, by the power of two. -/
def expE (top : Int) : Int := top * 1292913986 / 4294967296 + 1
def okE (k : Nat) (p : Int) : Bool :=
  decide (2 ^ (k + 1 + p.toNat) * 10 ^ (-expE (k + p)).toNat ≤ 10 * (2 ^ (-p).toNat * 10 ^ (expE (k + p)).toNat))
  && decide (2 ^ (-p).toNat * 10 ^ (expE (k + p)).toNat ≤ 10 * (2 ^ (k + p.toNat) * 10 ^ (-expE (k + p)).toNat))
theorem okE_low : (List.range 53).all (fun k => okE k (-1074)) = true := by kernel_rfl
theorem okE_high : (List.range 2046).all (fun i => okE 52 ((i : Int) - 1074)) = true := by kernel_rfl
theorem okE_at {k : Nat} {p : Int} (h : (k ≤ 52 ∧ p = -1074) ∨ (k = 52 ∧ -1074 ≤ p ∧ p ≤ 971)) : okE k p = true := by
  rcases h with ⟨h1, rfl⟩ | ⟨rfl, h1, h2⟩
  · exact List.all_eq_true.1 okE_low k (List.mem_range.2 (by omega))
  · have h3 := List.all_eq_true.1 okE_high (p + 1074).toNat (List.mem_range.2 (by omega))
    have e : (((p + 1074).toNat : Nat) : Int) - 1074 = p := by omega
    rw [e] at h3
    exact h3
end Go.Proofs.YtinfnkhghmcelaaDoor
