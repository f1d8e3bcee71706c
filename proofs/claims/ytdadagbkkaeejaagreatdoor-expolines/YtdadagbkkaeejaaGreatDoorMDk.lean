/- Texts that belong together. -/
import Derived.Test.YtdadagbkkaeejaaGreatDoorMDh
import Derived.Test.YtdadagbkkaeejaaGreatDoorRg
import Derived.WalkMore
/- A span grows. -/
namespace Go.Proofs.YtdadagbkkaeejaaGreatDoor.Nu
open Go.RowKit Go.Maps

theorem heap_set3 {w : World} {b : Nat} {v1 v2 v3 v4 v5 u1 u2 u3 : Value} {t : TypeId} (h : w.heap[b]? = some (.cells #[v1, v2, v3, v4, v5] t (0, 0))) :
    (((w.setCell ⟨b, 0, none⟩ u1).setCell ⟨b, 1, none⟩ u2).setCell ⟨b, 2, none⟩ u3).heap[b]? = some (.cells #[u1, u2, u3, v4, v5] t (0, 0)) := by
  have h1 := heap_setCell_same (i := 0) h u1
  have h2 := heap_setCell_same (i := 1) h1 u2
  have h3 := heap_setCell_same (i := 2) h2 u3
  exact h3

end Go.Proofs.YtdadagbkkaeejaaGreatDoor.Nu

/- A span grows. -/
namespace Go.Proofs.YtdadagbkkaeejaaGreatDoor.Nu
open Go.RowKit Go.Maps

theorem i64_ne : (3 : TypeId) ≠ 83 := by decide
theorem cell_of_int {w : World} {x : Nat} {n : Int} (h : w.heap[x]? = some (.cells #[.int .i64 n] 3 (0, 0))) : w.cell? ⟨x, 0, none⟩ = some (.int .i64 n) := by simp [World.cell?, h]
end Go.Proofs.YtdadagbkkaeejaaGreatDoor.Nu

/- A span is scaled. -/
namespace Go.Proofs.YtdadagbkkaeejaaGreatDoor.Nu
open Go.RowKit Go.Maps

theorem goOn {S G : World → Prop} {W : World} (h : S W) (k : ∀ W1, S W1 → G W1) : G W := k W h
theorem heap_set_at3 {w : World} {b : Nat} {v1 v2 v3 v4 v5 u : Value} {t : TypeId} (h : w.heap[b]? = some (.cells #[v1, v2, v3, v4, v5] t (0, 0))) : (w.setCell ⟨b, 3, none⟩ u).heap[b]? = some (.cells #[v1, v2, v3, u, v5] t (0, 0)) := heap_setCell_same (i := 3) h u
theorem heap_set_at0 {w : World} {b : Nat} {v1 v2 v3 v4 v5 u : Value} {t : TypeId} (h : w.heap[b]? = some (.cells #[v1, v2, v3, v4, v5] t (0, 0))) : (w.setCell ⟨b, 0, none⟩ u).heap[b]? = some (.cells #[u, v2, v3, v4, v5] t (0, 0)) := heap_setCell_same (i := 0) h u
/-- The power of ten, and the whole. -/
def scaleE (V W : Nat) (e : Int) : Int := if W * 10 ^ e.toNat ≤ V * 10 ^ (-e).toNat then e + 1 else e
def scaleW (V W : Nat) (e : Int) : Nat := if W * 10 ^ e.toNat ≤ V * 10 ^ (-e).toNat then W * 10 ^ e.toNat * 10 else W * 10 ^ e.toNat

end Go.Proofs.YtdadagbkkaeejaaGreatDoor.Nu

/- How far a digit is. -/
namespace Go.Proofs.YtdadagbkkaeejaaGreatDoor.Nu
open Go.RowKit Go.Maps

def withinB (c : Int) (cl : Bool) : Bool := decide (c < 0) || (decide (c = 0) && cl)
theorem within_down (r b : Nat) (cl : Bool) : withinB (cmpN r b) cl = downB r b cl := by
  unfold withinB downB cmpN
  by_cases h1 : r < b
  · simp [h1]
  · by_cases h2 : r = b
    · subst h2; simp
    · simp [h1, h2]
theorem within_up (r a w : Nat) (cl : Bool) : withinB (cmpN w (r + a)) cl = upB r a w cl := by
  unfold withinB upB cmpN
  by_cases h1 : w < r + a
  · simp [h1]
  · by_cases h2 : w = r + a
    · subst h2; simp
    · simp [h1, h2]

def nearY (V W y : Nat) : Bool := decide (2 * V < W) || (decide (2 * V = W) && decide (y % 2 = 0))
end Go.Proofs.YtdadagbkkaeejaaGreatDoor.Nu

/- The shortest digits, walked. -/
namespace Go.Proofs.YtdadagbkkaeejaaGreatDoor.Nu
open Go.RowKit Go.Maps

theorem len_short {Bl k m : Nat} (h : Bl * 10 ^ k < B m) (h0 : 0 < Bl) : k ≤ 32 * m := by
  rcases Nat.lt_or_ge (32 * m) k with h1 | h1
  · exfalso
    have hB : B m = 2 ^ (32 * m) := by unfold B; rw [Nat.pow_mul]
    have h2 : 2 ^ (32 * m) ≤ 2 ^ k := Nat.pow_le_pow_right (by decide) (by omega)
    have h3 : 2 ^ k ≤ 10 ^ k := Nat.pow_le_pow_left (by decide) k
    have h4 : 1 * 10 ^ k ≤ Bl * 10 ^ k := Nat.mul_le_mul_right _ h0
    omega
  · exact h1
theorem room_900 {x : Nat} (h : x < B 900 * 100) : x < B 999 := by
  have e : B 999 = B 900 * B 99 := (B_add 900 99).symm
  have h6 : 4294967296 ≤ B 99 := B_mono (show 1 ≤ 99 by decide)
  have h8 : B 900 * 4294967296 ≤ B 900 * B 99 := Nat.mul_le_mul_left _ h6
  rw [e]
  omega

end Go.Proofs.YtdadagbkkaeejaaGreatDoor.Nu

/- A float's span. -/
namespace Go.Proofs.YtdadagbkkaeejaaGreatDoor.Nu
open Go.RowKit Go.Maps

theorem apart_later {w w' w'' : World} {base N M : Nat} {u v : Value} (h1 : Big w base u N) (h2 : Big w' w''.heap.size v M) (h : w.heap.size ≤ w''.heap.size) : Apart u v := fun k hk hk' => by
  have q1 := (h1.lt k hk).2
  have q2 := (h2.lt k hk').1
  omega
theorem small_B {x : Nat} (h : x ≤ 18446744073709551616) : x < B 1000 := by
  have h1 := B_lt (show 2 < 1000 by decide)
  have : B 2 = 18446744073709551616 := rfl
  omega
/-- Naturals that were made one behind the other. -/
theorem span_chain {w0 w w1 w2 w3 w4 w5 w6 w7 w8 : World} {v1 v2 v3 v4 : Value} {V Bl A W : Nat} (h0 : Below w0.heap.size w0 w) (h1 : Below w.heap.size w w1) (h2 : Big w2 w1.heap.size v1 V) (h3 : Below w1.heap.size w1 w2) (h4 : Below w2.heap.size w2 w3) (h5 : Big w4 w3.heap.size v2 Bl) (h6 : Below w3.heap.size w3 w4) (h7 : Below w4.heap.size w4 w5) (h8 : Big w6 w5.heap.size v3 A) (h9 : Below w5.heap.size w5 w6) (h10 : Below w6.heap.size w6 w7) (h11 : Big w8 w7.heap.size v4 W) (h12 : Below w7.heap.size w7 w8) :
    Nats w8 w0.heap.size v1 v2 v3 v4 V Bl A W ∧ Below w0.heap.size w0 w8 ∧ Below w.heap.size w w8 := by
  have b28 : Below w2.heap.size w2 w8 := ((((h4.trans (h6.mono h4.size)).trans (h7.mono (Nat.le_trans h4.size h6.size))).trans (h9.mono (Nat.le_trans (Nat.le_trans h4.size h6.size) h7.size))).trans (h10.mono (Nat.le_trans (Nat.le_trans (Nat.le_trans h4.size h6.size) h7.size) h9.size))).trans (h12.mono (Nat.le_trans (Nat.le_trans (Nat.le_trans (Nat.le_trans h4.size h6.size) h7.size) h9.size) h10.size))
  have b48 : Below w4.heap.size w4 w8 := ((h7.trans (h9.mono h7.size)).trans (h10.mono (Nat.le_trans h7.size h9.size))).trans (h12.mono (Nat.le_trans (Nat.le_trans h7.size h9.size) h10.size))
  have b68 : Below w6.heap.size w6 w8 := h10.trans (h12.mono h10.size)
  have b08 : Below w.heap.size w w8 := (h1.trans (h3.mono h1.size)).trans (b28.mono (Nat.le_trans h1.size h3.size))
  have s1 := h1.size
  have s3 := h3.size
  have s4 := h4.size
  have s6 := h6.size
  have s7 := h7.size
  have s9 := h9.size
  have s10 := h10.size
  have s0 := h0.size
  refine ⟨⟨(h2.below b28).base (by omega), (h5.below b48).base (by omega), (h8.below b68).base (by omega), h11.base (by omega), apart_later h2 h5 (by omega), apart_later h2 h8 (by omega), apart_later h2 h11 (by omega), apart_later h5 h8 (by omega), apart_later h5 h11 (by omega), apart_later h8 h11 (by omega)⟩, h0.trans (b08.mono s0), b08⟩

end Go.Proofs.YtdadagbkkaeejaaGreatDoor.Nu

/- A float's digits: numbers. -/
namespace Go.Proofs.YtdadagbkkaeejaaGreatDoor.Nu
open Go.RowKit Go.Maps

def cR (raw : Nat) : Nat := (apartN raw).1
def pR (raw : Nat) : Int := (apartN raw).2
def eR (raw : Nat) : Int := expE ((cR raw).log2 + pR raw)
def vR (raw : Nat) : Nat := cR raw * 2 ^ ((pR raw).toNat + 2)
def bR (raw : Nat) : Nat := (if cR raw = 4503599627370496 ∧ -1074 < pR raw then 1 else 2) * 2 ^ (pR raw).toNat
def aR (raw : Nat) : Nat := 2 * 2 ^ (pR raw).toNat
def wR (raw : Nat) : Nat := 4 * 2 ^ (-pR raw).toNat
def clR (raw : Nat) : Bool := ((cR raw : Nat) : Int) % 2 == 0
def tR (raw : Nat) : Nat := 10 ^ (-eR raw).toNat
def EX (raw : Nat) : Int := scaleE (vR raw) (wR raw) (eR raw)
def WX (raw : Nat) : Nat := scaleW (vR raw) (wR raw) (eR raw)
def upR (l : List UInt8) (E : Int) : List UInt8 × Int := if 57 < (l.headD 0).toNat then ([49], E + 1) else (l, E)
/-- A float's digits, and the exponent of ten of 0.digits. -/
def digR (raw : Nat) : List UInt8 × Int := match shortF 30000 (vR raw * tR raw) (bR raw * tR raw) (aR raw * tR raw) (WX raw) (clR raw) with
  | some l => upR l (EX raw)
  | none => ([], 0)
structure DigF (raw : Nat) : Prop where
  c1 : 1 ≤ cR raw
  c2 : cR raw < 9007199254740992
  p1 : -1074 ≤ pR raw
  p2 : pR raw ≤ 971
  k : ((cR raw).log2 ≤ 52 ∧ pR raw = -1074) ∨ ((cR raw).log2 = 52 ∧ -1074 ≤ pR raw ∧ pR raw ≤ 971)
  e1 : -400 ≤ eR raw
  e2 : eR raw ≤ 400
theorem log_lt {c k : Nat} (h : c < 2 ^ (k + 1)) (h0 : c ≠ 0) : c.log2 ≤ k := by
  have h1 := (Nat.log2_eq_iff h0).1 rfl
  have h2 : 2 ^ c.log2 < 2 ^ (k + 1) := Nat.lt_of_le_of_lt h1.1 h
  have h3 := (Nat.pow_lt_pow_iff_right (a := 2) (by decide)).1 h2
  omega
theorem log_ge {c k : Nat} (h : 2 ^ k ≤ c) (h0 : c ≠ 0) : k ≤ c.log2 := by
  have h1 := (Nat.log2_eq_iff h0).1 rfl
  have h2 : 2 ^ k < 2 ^ (c.log2 + 1) := Nat.lt_of_le_of_lt h h1.2
  have h3 := (Nat.pow_lt_pow_iff_right (a := 2) (by decide)).1 h2
  omega
theorem dig_facts {raw : Nat} (h0 : 0 < raw) (h1 : raw < 9218868437227405312) : DigF raw := by
  have hk : (1 ≤ cR raw ∧ cR raw < 9007199254740992) ∧ (-1074 ≤ pR raw ∧ pR raw ≤ 971) ∧ (((cR raw).log2 ≤ 52 ∧ pR raw = -1074) ∨ ((cR raw).log2 = 52 ∧ -1074 ≤ pR raw ∧ pR raw ≤ 971)) := by
    unfold cR pR apartN
    split
    · refine ⟨⟨by simp; omega, by simp; omega⟩, ⟨by simp, by simp⟩, Or.inl ⟨?_, rfl⟩⟩
      exact log_lt (k := 52) (by simp; omega) (by simp; omega)
    · have q1 : raw / 4503599627370496 ≤ 2046 := by omega
      refine ⟨⟨by simp <;> omega, by simp <;> omega⟩, ⟨by simp <;> omega, by simp <;> omega⟩, Or.inr ⟨Nat.le_antisymm (log_lt (k := 52) (by simp; omega) (by simp)) (log_ge (by simp) (by simp)), by simp; omega, by simp; omega⟩⟩
  obtain ⟨⟨a, b⟩, ⟨c, d⟩, e⟩ := hk
  have hl : (cR raw).log2 ≤ 52 := by omega
  refine ⟨a, b, c, d, e, ?_, ?_⟩
  · unfold eR expE; omega
  · unfold eR expE; omega
theorem scale_lt {V W : Nat} {e : Int} (h : V * 10 ^ (-e).toNat < 10 * (W * 10 ^ e.toNat)) : V * 10 ^ (-e).toNat < scaleW V W e := by
  unfold scaleW
  split
  · omega
  · omega
/-- The value lies below the whole, and what else the digits ask. -/
theorem dig_bounds {raw : Nat} (h : DigF raw) : vR raw * tR raw < WX raw ∧ bR raw * tR raw ≤ WX raw ∧ aR raw * tR raw ≤ 2 * (bR raw * tR raw) ∧ 0 < bR raw * tR raw := by
  have hpp : 0 < 2 ^ (pR raw).toNat := Nat.pow_pos (by decide)
  have hpt : 0 < tR raw := Nat.pow_pos (by decide)
  have hv : vR raw * tR raw < WX raw := by
    refine scale_lt ?_
    have hok := okE_at h.k
    unfold okE at hok
    simp only [Bool.and_eq_true, decide_eq_true_eq] at hok
    have h1 := hok.1
    have hlog := ((Nat.log2_eq_iff (show cR raw ≠ 0 by have := h.c1; omega)).1 rfl).2
    unfold vR wR
    show cR raw * 2 ^ ((pR raw).toNat + 2) * 10 ^ (-expE ((cR raw).log2 + pR raw)).toNat < 10 * (4 * 2 ^ (-pR raw).toNat * 10 ^ (expE ((cR raw).log2 + pR raw)).toNat)
    have hX0 : 0 < 10 ^ (-expE ((cR raw).log2 + pR raw)).toNat := Nat.pow_pos (by decide)
    generalize 10 ^ (-expE ((cR raw).log2 + pR raw)).toNat = X at *
    generalize 10 ^ (expE ((cR raw).log2 + pR raw)).toNat = Y at *
    have e1 : cR raw * 2 ^ ((pR raw).toNat + 2) * X = 4 * (cR raw * 2 ^ (pR raw).toNat * X) := by
      rw [Nat.pow_add]
      simp only [Nat.mul_comm, Nat.mul_left_comm]
    have e2 : 10 * (4 * 2 ^ (-pR raw).toNat * Y) = 4 * (10 * (2 ^ (-pR raw).toNat * Y)) := by
      simp only [Nat.mul_comm, Nat.mul_left_comm]
    rw [e1, e2]
    have e3 : (2 : Nat) ^ ((cR raw).log2 + 1 + (pR raw).toNat) = 2 ^ ((cR raw).log2 + 1) * 2 ^ (pR raw).toNat := Nat.pow_add _ _ _
    rw [e3] at h1
    have h2 : cR raw * 2 ^ (pR raw).toNat * X < 2 ^ ((cR raw).log2 + 1) * 2 ^ (pR raw).toNat * X := Nat.mul_lt_mul_of_pos_right (Nat.mul_lt_mul_of_pos_right hlog hpp) hX0
    omega
  have hb1 : bR raw ≤ vR raw := by
    unfold bR vR
    have q1 : (if cR raw = 4503599627370496 ∧ -1074 < pR raw then 1 else 2) * 2 ^ (pR raw).toNat ≤ 2 * 2 ^ (pR raw).toNat := Nat.mul_le_mul_right _ (by split <;> omega)
    have q2 : 1 * 2 ^ ((pR raw).toNat + 2) ≤ cR raw * 2 ^ ((pR raw).toNat + 2) := Nat.mul_le_mul_right _ h.c1
    have q3 : 2 ^ ((pR raw).toNat + 2) = 2 ^ (pR raw).toNat * 4 := Nat.pow_add _ _ _
    omega
  have ha1 : aR raw ≤ 2 * bR raw := by
    unfold aR bR
    have q1 : 1 * 2 ^ (pR raw).toNat ≤ (if cR raw = 4503599627370496 ∧ -1074 < pR raw then 1 else 2) * 2 ^ (pR raw).toNat := Nat.mul_le_mul_right _ (by split <;> omega)
    omega
  have hb0 : 0 < bR raw := by
    unfold bR
    exact Nat.mul_pos (by split <;> omega) hpp
  refine ⟨hv, Nat.le_of_lt (Nat.lt_of_le_of_lt (Nat.mul_le_mul_right _ hb1) hv), ?_, Nat.mul_pos hb0 hpt⟩
  rw [← Nat.mul_assoc]
  exact Nat.mul_le_mul_right _ ha1
theorem B90 {x y : Nat} (h1 : x < B 40) (h2 : y ≤ B 50) : x * y < B 899 := by
  have h3 : x * y ≤ x * B 50 := Nat.mul_le_mul_left _ h2
  have h4 : x * B 50 < B 40 * B 50 := Nat.mul_lt_mul_of_pos_right h1 (B_pos 50)
  rw [B_add] at h4
  have h5 := B_lt (show 40 + 50 < 899 by decide)
  omega
theorem dig_small {raw : Nat} (h : DigF raw) : vR raw * tR raw < B 899 ∧ bR raw * tR raw < B 899 ∧ aR raw * tR raw < B 899 ∧ wR raw * 10 ^ (eR raw).toNat < B 899 ∧ WX raw < B 900 := by
  have q1 := h.p1
  have q2 := h.p2
  have ht : tR raw ≤ B 50 := pow10_lt (by have := h.e1; omega)
  have ht2 : 10 ^ (eR raw).toNat ≤ B 50 := pow10_lt (by have := h.e2; omega)
  have hs : ∀ {x k : Nat}, x < 2 ^ 53 → k ≤ 1100 → x * 2 ^ k < B 40 := fun {x k} h1 h2 => by
    have h3 : x * 2 ^ k < 2 ^ 53 * 2 ^ k := Nat.mul_lt_mul_of_pos_right h1 (Nat.pow_pos (by decide))
    rw [← Nat.pow_add] at h3
    have h4 : 2 ^ (53 + k) ≤ B 40 := pow_le_B (by omega)
    omega
  have hv : vR raw < B 40 := hs h.c2 (by omega)
  have hb : bR raw < B 40 := hs (by split <;> decide) (by omega)
  have ha : aR raw < B 40 := hs (by decide) (by omega)
  have hw : wR raw < B 40 := hs (by decide) (by omega)
  have hW := B90 hw ht2
  refine ⟨B90 hv ht, B90 hb ht, B90 ha ht, hW, ?_⟩
  unfold WX scaleW
  have e : B 900 = 4294967296 * B 899 := B_succ 899
  split <;> omega
theorem B_ten {m k : Nat} (h : 32 * m ≤ k) : B m ≤ 10 ^ k := by
  have hB : B m = 2 ^ (32 * m) := by unfold B; rw [Nat.pow_mul]
  rw [hB]
  exact Nat.le_trans (Nat.pow_le_pow_left (by decide : 2 ≤ 10) _) (Nat.pow_le_pow_right (by decide) h)
theorem dig_short {raw : Nat} (h : DigF raw) {n : Nat} {l : List UInt8} (hl : shortF n (vR raw * tR raw) (bR raw * tR raw) (aR raw * tR raw) (WX raw) (clR raw) = some l) : digR raw = upR l (EX raw) := by
  obtain ⟨b1, b2, b3, b4⟩ := dig_bounds h
  have hW := (dig_small h).2.2.2.2
  obtain ⟨N, hN⟩ : ∃ N, N = 29999 := ⟨_, rfl⟩
  have h10 : WX raw < bR raw * tR raw * 10 ^ (N + 1) := by
    have h3 : B 900 ≤ 10 ^ (N + 1) := B_ten (by omega)
    have h4 : 1 * 10 ^ (N + 1) ≤ bR raw * tR raw * 10 ^ (N + 1) := Nat.mul_le_mul_right _ b4
    omega
  obtain ⟨l', hl'⟩ := shortF_ends N (vR raw * tR raw) (bR raw * tR raw) (aR raw * tR raw) (WX raw) (clR raw) (by omega) h10
  have hl' := shortF_mono (N + 1) 0 _ _ _ _ _ _ hl'
  rw [show N + 1 + 0 = 30000 by omega] at hl'
  have := shortF_one hl hl'
  subst this
  unfold digR
  rw [hl']
end Go.Proofs.YtdadagbkkaeejaaGreatDoor.Nu
