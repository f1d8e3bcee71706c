/- A float's text, written and read. -/
import Derived.Test.YtlhhnklncaakbaaDoorFg
namespace Go.Proofs.YtlhhnklncaakbaaDoor
open Go.RowKit Go.Maps

theorem ReadAs.plus {T : List UInt8} {raw : Nat} (h : ReadAs T raw) : parseR ⟨T.toArray⟩ = (raw, 0) := by
  obtain ⟨b, t, rfl, hb, hl, ds, p, e1, e2⟩ := h
  subst e2
  rw [parse_digit hb (by omega), e1]
theorem ReadAs.minus {T : List UInt8} {raw : Nat} (h : ReadAs T raw) : parseR ⟨(45 :: T).toArray⟩ = (raw + 9223372036854775808, 0) := by
  obtain ⟨b, t, rfl, hb, hl, ds, p, e1, e2⟩ := h
  subst e2
  rw [parse_minus hb (by omega), e1]
theorem ReadAs.len {T : List UInt8} {raw : Nat} (h : ReadAs T raw) : T.length ≤ 300 := by
  obtain ⟨b, t, rfl, hb, hl, -⟩ := h
  simp
  omega
/-- The text of bits: what is read of it. -/
def TextOf (x : Nat) (T : List UInt8) : Prop := T.length ≤ 301 ∧ (∀ W : World, Pow W → Calls Tryd.prog 12 #[.float .f64 x] W fun e w' => e = .returned (.string ⟨T.toArray⟩) ∧ Below W.heap.size W w')
theorem inf_plus : parseR ⟨([43, 73, 110, 102] : List UInt8).toArray⟩ = (9218868437227405312, 0) := by kernel_rfl
theorem inf_minus : parseR ⟨([45, 73, 110, 102] : List UInt8).toArray⟩ = (18442240474082181120, 0) := by kernel_rfl
theorem zero_plus : parseR ⟨([48] : List UInt8).toArray⟩ = (0, 0) := by kernel_rfl
theorem zero_minus : parseR ⟨([45, 48] : List UInt8).toArray⟩ = (9223372036854775808, 0) := by kernel_rfl
theorem nan_read : parseR ⟨([78, 97, 78] : List UInt8).toArray⟩ = (9221120237041090561, 0) := by kernel_rfl
theorem text_of (x : Nat) (hx : x < 18446744073709551616) (h : x % 9223372036854775808 ≤ 9218868437227405312) : ∃ T, TextOf x T ∧ parseR ⟨T.toArray⟩ = (x, 0) := by
  obtain ⟨raw, hraw⟩ : ∃ raw, raw = x % 9223372036854775808 := ⟨_, rfl⟩
  rw [← hraw] at h
  by_cases hn : 9223372036854775808 ≤ x
  · rcases (show raw = 9218868437227405312 ∨ raw = 0 ∨ (0 < raw ∧ raw < 9218868437227405312) by omega) with hk | hk | ⟨h0, h1⟩
    · refine ⟨_, ⟨by simp, fun W _ => text_inf_n x raw W hx hraw hn hk⟩, ?_⟩
      rw [inf_minus]
      congr 1
      omega
    · refine ⟨_, ⟨by simp, fun W _ => text_zero_n x raw W hx hraw hn hk⟩, ?_⟩
      rw [zero_minus]
      congr 1
      omega
    · by_cases hk : -5 ≤ (dgR raw).2 ∧ (dgR raw).2 ≤ 21
      · have hr := plain_read h0 h1 hk
        refine ⟨_, ⟨?_, fun W _ => text_plain_n x raw W hx hraw hn h0 h1 hk⟩, ?_⟩
        · have := hr.len
          simp
          omega
        · rw [hr.minus]
          congr 1
          omega
      · have hr := pow_read h0 h1
        refine ⟨_, ⟨?_, fun W hp => text_pow_n x raw W hx hraw hn h0 h1 hk hp⟩, ?_⟩
        · have := hr.len
          simp
          omega
        · rw [hr.minus]
          congr 1
          omega
  · rcases (show raw = 9218868437227405312 ∨ raw = 0 ∨ (0 < raw ∧ raw < 9218868437227405312) by omega) with hk | hk | ⟨h0, h1⟩
    · refine ⟨_, ⟨by simp, fun W _ => text_inf_p x raw W hx hraw hn hk⟩, ?_⟩
      rw [inf_plus]
      congr 1
      omega
    · refine ⟨_, ⟨by simp, fun W _ => text_zero_p x raw W hx hraw hn hk⟩, ?_⟩
      rw [zero_plus]
      congr 1
      omega
    · by_cases hk : -5 ≤ (dgR raw).2 ∧ (dgR raw).2 ≤ 21
      · have hr := plain_read h0 h1 hk
        refine ⟨_, ⟨by have := hr.len; omega, fun W _ => text_plain_p x raw W hx hraw hn h0 h1 hk⟩, ?_⟩
        rw [hr.plus]
        congr 1
        omega
      · have hr := pow_read h0 h1
        refine ⟨_, ⟨by have := hr.len; omega, fun W hp => text_pow_p x raw W hx hraw hn h0 h1 hk hp⟩, ?_⟩
        rw [hr.plus]
        congr 1
        omega
end Go.Proofs.YtlhhnklncaakbaaDoor
