/- Quotients as floats. -/
import Derived.Test.YtinfnkhghmcelaaDoorMJa
import Derived.Test.YtinfnkhghmcelaaDoorSn
namespace Go.Proofs.YtinfnkhghmcelaaDoor
open Go.RowKit Go.Maps

theorem bitLenAux_log : ∀ (f x : Nat), x ≠ 0 → x < 2 ^ f → Lib.bitLenAux f x = x.log2 + 1
  | 0, x, h0, h => by simp at h; omega
  | f + 1, x, h0, h => by
    unfold Lib.bitLenAux
    rw [if_neg h0, Nat.log2_def]
    by_cases h2 : 2 ≤ x
    · rw [if_pos h2, bitLenAux_log f (x / 2) (by omega) (by rw [Nat.pow_succ] at h; omega)]
      omega
    · have : x = 1 := by omega
      subst this
      simp
      cases f <;> simp [Lib.bitLenAux]
theorem bitLen_log {x : Nat} (h0 : x ≠ 0) (h : x < 18446744073709551616) : Lib.bitLen x = x.log2 + 1 := bitLenAux_log 64 x h0 h
theorem log_word {ds : List UInt32} {x : UInt32} (hx : x ≠ 0) : (valU (ds ++ [x])).log2 = 32 * ds.length + x.toNat.log2 := by
  have hx0 : x.toNat ≠ 0 := fun e => hx (UInt32.toNat_inj.1 (by simpa using e))
  have h1 := valU_lt ds
  have hB : B ds.length = 2 ^ (32 * ds.length) := by unfold B; rw [Nat.pow_mul]
  have hl := (Nat.log2_eq_iff hx0).1 rfl
  rw [valU_snoc]
  have hpos : 0 < B ds.length * x.toNat := Nat.mul_pos (B_pos _) (by omega)
  rw [Nat.log2_eq_iff (by omega)]
  rw [hB] at h1 hpos ⊢
  constructor
  · rw [Nat.pow_add]
    have := Nat.mul_le_mul_left (2 ^ (32 * ds.length)) hl.1
    omega
  · rw [Nat.add_assoc, Nat.pow_add]
    have : 2 ^ (32 * ds.length) * (x.toNat + 1) ≤ 2 ^ (32 * ds.length) * 2 ^ (x.toNat.log2 + 1) := Nat.mul_le_mul_left _ hl.2
    rw [Nat.mul_add] at this
    omega

set_option maxRecDepth 100000 in
set_option maxHeartbeats 1000000 in
theorem length_any (v : Value) (N : Nat) (w : World) (h : BigAt w v N) (hN : N < B 1000) (h0 : N ≠ 0) :
    Calls Tryd.prog 75 #[v] w fun e w' => e = .returned (.int .i64 ((N.log2 + 1 : Nat) : Int)) ∧ w' = w := by
  obtain ⟨a, c, ds, rfl, hat, hval, hnorm⟩ := h
  have hlen := len_of_val hnorm (hval ▸ hN)
  have hne : ds ≠ [] := fun e => h0 (by rw [← hval, e]; rfl)
  obtain ⟨t, x, rfl⟩ : ∃ t x, ds = t ++ [x] := ⟨ds.dropLast, ds.getLast hne, (List.dropLast_concat_getLast hne).symm⟩
  have hx : x ≠ 0 := hnorm x (by simp)
  have hxl : x.toNat < 4294967296 := x.toNat_lt
  have hx0 : x.toNat ≠ 0 := fun e => hx (UInt32.toNat_inj.1 (by simpa using e))
  have hlog := log_word (ds := t) hx
  have hl : (t ++ [x]).length = t.length + 1 := by simp
  obtain ⟨b, o, rfl, hb, hc⟩ := hat.one t.length (by simp)
  have e1 : (t ++ [x])[t.length] = x := by simp
  rw [e1] at hc
  rw [hl] at hlen ⊢
  obtain ⟨L, hL⟩ : ∃ L, L = Lib.bitLen x.toNat := ⟨_, rfl⟩
  have hLl : L ≤ 32 := by rw [hL]; exact Any.bitLen_le32 x.toNat (by omega) (by omega)
  have hlz : Calls Tryd.prog 84 #[.int .u32 x.toNat] w fun e w' => e = .returned (.int .i64 (32 - (L : Int))) ∧ w' = w := by rw [hL]; exact Any.bits_LeadingZeros32 Tryd.lays133 x.toNat w (by omega) (by omega)
  have HR : Hid (((N.log2 + 1 : Nat) : Int) = 32 * ((t.length : Int) + 1) - (32 - (L : Int))) := by
    show _ = _
    rw [← hval, hlog, hL, bitLen_log hx0 (by omega)]
    omega
  clear hlog hL hval hnorm hat h0 hN
  generalize x.toNat = y at *
  go_enter Tryd.func75, Tryd.ntmps75
  go_wp2_with (go_at_call 84; refine hlz.mono ?_; clear hlz; rintro e w1 ⟨rfl, hw1⟩; have hw1 := hw1.symm; subst hw1)
  go_ret
  exact ⟨by rw [HR.out]; rfl, rfl⟩

def divL (D : Nat) : Nat → Nat → Nat → Nat × Nat
  | 0, A, c => (A, c)
  | n + 1, A, c => if D ≤ A then divL D n ((A - D) * 2) (c * 2 + 1) else divL D n (A * 2) (c * 2)
def roundQ (D : Nat) (r : Nat × Nat) : Nat := if D < r.1 ∨ (r.1 = D ∧ r.2 % 2 = 1) then r.2 + 1 else r.2
def powQ (t : Int) : Int := max (t - 52) (-1074)
def quotB (A D : Nat) (t : Int) : Nat := if t < -1075 then 0 else min (roundQ D (divL D (t - powQ t + 1).toNat A 0) + (powQ t + 1074).toNat * 4503599627370496) 9218868437227405312
def quotN (A D : Nat) : Nat :=
  if A * 2 ^ ((D.log2 : Int) - A.log2).toNat < D * 2 ^ ((A.log2 : Int) - D.log2).toNat then quotB (A * 2 ^ ((D.log2 : Int) - A.log2).toNat * 2) (D * 2 ^ ((A.log2 : Int) - D.log2).toNat) ((A.log2 : Int) - D.log2 - 1)
  else quotB (A * 2 ^ ((D.log2 : Int) - A.log2).toNat) (D * 2 ^ ((A.log2 : Int) - D.log2).toNat) ((A.log2 : Int) - D.log2)

theorem cmp_ge {N M : Nat} (h : M ≤ N) : 0 ≤ cmpN N M := by
  unfold cmpN
  rw [if_neg (by omega)]
  split <;> omega
theorem cmp_lt {N M : Nat} (h : N < M) : cmpN N M = -1 := by
  unfold cmpN
  rw [if_pos h]
theorem cmp_gt {N M : Nat} (h : M < N) : cmpN N M = 1 := by
  unfold cmpN
  rw [if_neg (by omega), if_neg (by omega)]
theorem cmp_eq (N : Nat) : cmpN N N = 0 := by
  unfold cmpN
  rw [if_neg (by omega), if_pos rfl]
theorem ret_u64 {a b : Int} (h : a = b) : Ending.returned (.int .u64 a) = .returned (.int .u64 b) := by rw [h]
theorem fin_c {c e Q : Nat} (h : Q = min (c + e * 4503599627370496) 9218868437227405312) : min ((c : Int) + (e : Int) * 4503599627370496) 9218868437227405312 = (Q : Int) := by
  rw [h]
  omega
theorem fin_c1 {c e Q : Nat} (h : Q = min ((c + 1) + e * 4503599627370496) 9218868437227405312) : min ((c : Int) + 1 + (e : Int) * 4503599627370496) 9218868437227405312 = (Q : Int) := by
  rw [h]
  omega
theorem Big.drewN {w : World} {base N : Nat} {v : Value} (h : Big w base v N) (q : Nat) : Big (w.drewN q) base v N := h.below (below_drewN (Below.refl _ _) q)
theorem Big.base {w : World} {base base' N : Nat} {v : Value} (h : Big w base v N) (hb : base' ≤ base) : Big w base' v N := by
  obtain ⟨a, c, ds, e, h1, h2, h3⟩ := h
  exact ⟨a, c, ds, e, row_mono h1 hb, h2, h3⟩
/-- Behind a step on v another natural is still there, and v's new block is not its. -/
theorem Big.step {w w' : World} {base N : Nat} {v v' u : Value} (h : Big w base u N) (hs : Step w w' v v') (hne : ∀ k, u.ownBlock = some k → ¬ v.ownBlock = some k) : Big w' base u N ∧ ∀ k, u.ownBlock = some k → ¬ v'.ownBlock = some k := by
  refine ⟨h.kept hs.1 hne, fun k hk hk' => ?_⟩
  rcases hs.2 k hk' with h1 | h1
  · exact hne k hk h1
  · have := (h.lt k hk).2
    omega
theorem Step.below {w w' : World} {v v' : Value} {base N : Nat} (hs : Step w w' v v') (h : Big w base v N) (hb : base ≤ w.heap.size) : Below base w w' := hs.1.toBelow hb (fun i hi => (h.lt i hi).1)
theorem cnt_lt (j c : Nat) (h : c < 2 ^ j) (hj : j ≤ 60) : c < 1152921504606846976 := Nat.lt_of_lt_of_le h (Nat.pow_le_pow_right (n := 2) (by decide) hj)

theorem log_le {A m : Nat} (h : A < B m) (h0 : A ≠ 0) : A.log2 < 32 * m := by
  have h9 := (Nat.log2_eq_iff h0).1 rfl
  have hB : B m = 2 ^ (32 * m) := by unfold B; rw [Nat.pow_mul]
  rw [hB] at h
  exact (Nat.pow_lt_pow_iff_right (by decide)).1 (Nat.lt_of_le_of_lt h9.1 h)
/-- Both shifted to one length, the one is less than twice the other. -/
theorem level {A D : Nat} (hA : A ≠ 0) (hD : D ≠ 0) : A * 2 ^ ((D.log2 : Int) - A.log2).toNat < 2 * (D * 2 ^ ((A.log2 : Int) - D.log2).toNat) := by
  have h1 := (Nat.log2_eq_iff hA).1 rfl
  have h2 := (Nat.log2_eq_iff hD).1 rfl
  rcases Nat.le_total A.log2 D.log2 with h | h
  · have e1 : ((D.log2 : Int) - A.log2).toNat = D.log2 - A.log2 := by omega
    have e2 : ((A.log2 : Int) - D.log2).toNat = 0 := by omega
    rw [e1, e2, Nat.pow_zero, Nat.mul_one]
    have h3 : A * 2 ^ (D.log2 - A.log2) < 2 ^ (A.log2 + 1) * 2 ^ (D.log2 - A.log2) := Nat.mul_lt_mul_of_pos_right h1.2 (Nat.pow_pos (by decide))
    rw [← Nat.pow_add, show A.log2 + 1 + (D.log2 - A.log2) = D.log2 + 1 by omega, Nat.pow_succ] at h3
    omega
  · have e1 : ((D.log2 : Int) - A.log2).toNat = 0 := by omega
    have e2 : ((A.log2 : Int) - D.log2).toNat = A.log2 - D.log2 := by omega
    rw [e1, e2, Nat.pow_zero, Nat.mul_one]
    have h3 : 2 ^ D.log2 * 2 ^ (A.log2 - D.log2) ≤ D * 2 ^ (A.log2 - D.log2) := Nat.mul_le_mul_right _ h2.1
    rw [← Nat.pow_add, show D.log2 + (A.log2 - D.log2) = A.log2 by omega] at h3
    have := h1.2
    rw [Nat.pow_succ] at this
    omega
theorem B_add (a b : Nat) : B a * B b = B (a + b) := by unfold B; rw [← Nat.pow_add]
theorem pow_le_B {k m : Nat} (h : k ≤ 32 * m) : 2 ^ k ≤ B m := by
  have hB : B m = 2 ^ (32 * m) := by unfold B; rw [Nat.pow_mul]
  rw [hB]
  exact Nat.pow_le_pow_right (by decide) h
theorem small_shift {D k : Nat} (hD : D < B 400) (hk : k ≤ 12800) : 2 * (D * 2 ^ k) < B 999 := by
  have h1 : D * 2 ^ k ≤ B 400 * 2 ^ k := Nat.mul_le_mul_right _ (by omega)
  have h2 : 2 ^ k ≤ B 400 := pow_le_B hk
  have h3 : B 400 * 2 ^ k ≤ B 400 * B 400 := Nat.mul_le_mul_left _ h2
  have h4 : B 400 * B 400 = B 800 := B_add 400 400
  have h5 : 2 * B 800 < B 999 := by
    have e : B 999 = B 800 * B 199 := (B_add 800 199).symm
    have h6 : 4294967296 ≤ B 199 := by
      have := B_mono (show 1 ≤ 199 by decide)
      exact this
    have h7 := B_pos 800
    rw [e]
    have h8 : B 800 * 4294967296 ≤ B 800 * B 199 := Nat.mul_le_mul_left _ h6
    omega
  omega

end Go.Proofs.YtinfnkhghmcelaaDoor
