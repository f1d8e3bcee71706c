/- Texts that belong together. -/
import Derived.Test.YtinfnkhghmcelaaDoorMDq
import Derived.Test.YtinfnkhghmcelaaDoorSp
import Derived.Test.YtinfnkhghmcelaaDoorSo
import Derived.Shelf.Strings.BuilderK
/- A float's digits, walked. -/
namespace Go.Proofs.YtinfnkhghmcelaaDoor
open Go.RowKit Go.Maps

theorem floatbits_run (n : Nat) (W : World) : (callFunc 30 #[.float .f64 n]).run Tryd.prog W = .ok (.value (.int .u64 n)) W := by kernel_rfl
theorem and_sign_lo {x : Nat} (h : x < 9223372036854775808) : bits .and .u64 (x : Int) 9223372036854775808 = 0 := by
  have h1 := u64_and_nat x 9223372036854775808 (by omega) (by decide)
  have e : x &&& 9223372036854775808 = 0 := by
    have h3 : x.testBit 63 = false := Nat.testBit_lt_two_pow (by omega)
    apply Nat.eq_of_testBit_eq
    intro i
    rw [Nat.testBit_and, show (9223372036854775808 : Nat) = 2 ^ 63 from rfl, Nat.testBit_two_pow, Nat.zero_testBit]
    by_cases hi : 63 = i
    · subst hi; rw [h3]; rfl
    · simp [hi]
  rw [e] at h1
  exact h1
theorem and_sign_hi {x r : Nat} (hx : x = r + 9223372036854775808) (h : r < 9223372036854775808) : bits .and .u64 (x : Int) 9223372036854775808 = 9223372036854775808 := by
  have h1 := u64_and_nat x 9223372036854775808 (by omega) (by decide)
  have e : x &&& 9223372036854775808 = 9223372036854775808 := by
    have h3 : x.testBit 63 = true := by rw [Nat.testBit_eq_decide_div_mod_eq]; simp; omega
    apply Nat.eq_of_testBit_eq
    intro i
    rw [Nat.testBit_and, show (9223372036854775808 : Nat) = 2 ^ 63 from rfl, Nat.testBit_two_pow]
    by_cases hi : 63 = i
    · subst hi; rw [h3]; rfl
    · simp [hi]
  rw [e] at h1
  exact h1
theorem andnot_sign {x : Nat} (hx : x < 18446744073709551616) : bits .andNot .u64 (x : Int) 9223372036854775808 = ((x % 9223372036854775808 : Nat) : Int) := by
  have h1 := u64_andNot_nat x 9223372036854775808 hx (by decide)
  have e : x &&& (18446744073709551615 - 9223372036854775808) = x % 9223372036854775808 := Nat.and_two_pow_sub_one_eq_mod x 63
  rw [e] at h1
  exact h1
def dgR (raw : Nat) : List UInt8 × Int := if raw = 0 ∨ 9218868437227405312 ≤ raw then ([], 0) else digR raw
theorem Nats.base {w : World} {base base' : Nat} {v1 v2 v3 v4 : Value} {V Bl A W : Nat} (h : Nats w base v1 v2 v3 v4 V Bl A W) (hb : base' ≤ base) : Nats w base' v1 v2 v3 v4 V Bl A W :=
  ⟨h.b1.base hb, h.b2.base hb, h.b3.base hb, h.b4.base hb, h.a12, h.a13, h.a14, h.a23, h.a24, h.a34⟩
theorem ret_sib {a b : List UInt8} {c d : Int} {n : Bool} (h1 : a = b) (h2 : c = d) : Ending.returned (.tuple #[.string ⟨a.toArray⟩, .int .i64 c, .bool n]) = .returned (.tuple #[.string ⟨b.toArray⟩, .int .i64 d, .bool n]) := by rw [h1, h2]

theorem head_cell {w : World} {base g c : Nat} {l : List UInt8} (h : w.ownsRow base 5 1 (.slice (some ⟨g, 0, none⟩) l.length c) l.length (u8s l)) (h0 : 0 < l.length) : w.cell? ⟨g, 0, none⟩ = some (.int .u8 ((l.headD 0).toNat : Nat)) := by
  cases l with
  | nil => simp at h0
  | cons d t =>
    have h9 := h.cells (g := g) rfl 0 (.int .u8 d.toNat) (by simp [u8s])
    rw [Addr.add_lit] at h9
    exact h9

theorem conv_row {w : World} {base g c : Nat} {l : List UInt8} (h : w.ownsRow base 5 1 (.slice (some ⟨g, 0, none⟩) l.length c) l.length (u8s l)) : (convert 44 9 (.slice (some ⟨g, 0, none⟩) l.length c)).run Tryd.prog w = .ok (.string ⟨l.toArray⟩) w := by
  refine run_convert_bytes_back (P := Tryd.prog) w 44 9 5 ⟨g, 0, none⟩ c l Tryd.underlying44 Tryd.underlying5 Tryd.underlying9 (fun j hj => ?_)
  have h9 := h.cells (g := g) rfl j (.int .u8 l[j].toNat) (by simp [u8s, hj])
  exact h9

set_option maxRecDepth 100000 in
set_option maxHeartbeats 2000000 in
theorem digits_core (x raw : Nat) (neg : Bool) (w : World) (hand : bits .and .u64 (x : Int) 9223372036854775808 = if neg then 9223372036854775808 else 0) (handn : bits .andNot .u64 (x : Int) 9223372036854775808 = (raw : Int)) (hraw : raw < 9223372036854775808) :
    Calls Tryd.prog 11 #[.float .f64 x] w fun e w' => e = .returned (.tuple #[.string ⟨(dgR raw).1.toArray⟩, .int .i64 (dgR raw).2, .bool neg]) ∧ Below w.heap.size w w' := by
  have hfb := floatbits_run
  by_cases h0 : raw = 0
  · have HD : Hid (dgR raw = ([], 0)) := by show _ = _; unfold dgR; rw [if_pos (Or.inl h0)]
    subst h0
    cases neg with
    | false =>
      simp only [Bool.false_eq_true, if_false] at hand
      go_enter Tryd.func11, Tryd.ntmps11
      go_wp2
      go_ret3
      exact ⟨by rw [HD.out]; rfl, Below.refl _ _⟩
    | true =>
      simp only [if_true] at hand
      go_enter Tryd.func11, Tryd.ntmps11
      go_wp2
      go_ret3
      exact ⟨by rw [HD.out]; rfl, Below.refl _ _⟩
  · have h0' : ((raw : Int) == 0) = false := by rw [beq_eq_false_iff_ne]; omega
    by_cases h1 : 9218868437227405312 ≤ raw
    · have HD : Hid (dgR raw = ([], 0)) := by show _ = _; unfold dgR; rw [if_pos (Or.inr h1)]
      have h1i : (9218868437227405312 : Int) ≤ (raw : Int) := by omega
      cases neg with
      | false =>
        simp only [Bool.false_eq_true, if_false] at hand
        go_enter Tryd.func11, Tryd.ntmps11
        go_wp2
        go_ret3
        exact ⟨by rw [HD.out]; rfl, Below.refl _ _⟩
      | true =>
        simp only [if_true] at hand
        go_enter Tryd.func11, Tryd.ntmps11
        go_wp2
        go_ret3
        exact ⟨by rw [HD.out]; rfl, Below.refl _ _⟩
    · have h1' : decide (9218868437227405312 ≤ (raw : Int)) = false := by simp; omega
      have hf := dig_facts (by omega) (show raw < 9218868437227405312 by omega)
      have HDG : Hid (dgR raw = digR raw) := by show _ = _; unfold dgR; rw [if_neg (by omega)]
      have HF : Hid (DigF raw) := hf
      have hap := apart_any raw w hraw
      obtain ⟨c, hc⟩ : ∃ c, c = cR raw := ⟨_, rfl⟩
      obtain ⟨p, hp⟩ : ∃ p, p = pR raw := ⟨_, rfl⟩
      have e1 : (apartN raw).1 = c := hc.symm
      have e2 : (apartN raw).2 = p := hp.symm
      rw [e1, e2] at hap
      obtain ⟨k, hk⟩ : ∃ k, k = c.log2 := ⟨_, rfl⟩
      have hcb : 1 ≤ c ∧ c < 9007199254740992 := by rw [hc]; exact ⟨hf.c1, hf.c2⟩
      have hpb : -1074 ≤ p ∧ p ≤ 971 := by rw [hp]; exact ⟨hf.p1, hf.p2⟩
      have hkb : k ≤ 52 := by
        have := hf.k
        rw [← hc, ← hk] at this
        omega
      have HLN : Hid (∀ W : World, Calls Tryd.prog 35 #[.int .u64 c] W fun e w' => e = .returned (.int .i64 ((k : Int) + 1)) ∧ w' = W) := fun W => by
        have h9 := Any.bits_Len64 Tryd.lays129 (c : Int) W (by omega) (by omega)
        have h8 : ((Lib.bitLen (c : Int).toNat : Nat) : Int) = (k : Int) + 1 := by
          rw [Int.toNat_natCast, bitLen_log (by omega) (by omega), hk]
          simp
        rw [h8] at h9
        exact h9
      have HSP : Hid (Calls Tryd.prog 33 #[.int .u64 c, .int .i64 p] w fun e w' => ∃ a1 q1 k1 a2 q2 k2 a3 q3 k3 a4 q4 k4, e = .returned (.agg #[.slice a1 q1 k1, .slice a2 q2 k2, .slice a3 q3 k3, .slice a4 q4 k4, .bool (clR raw)]) ∧ Nats w' w.heap.size (.slice a1 q1 k1) (.slice a2 q2 k2) (.slice a3 q3 k3) (.slice a4 q4 k4) (vR raw) (bR raw) (aR raw) (wR raw) ∧ Below w.heap.size w w') := (span_walk c p.toNat (-p).toNat p w (by omega) rfl rfl hpb.1 hpb.2).mono (by
        rintro e w' ⟨v1, v2, v3, v4, rfl, hN, hb⟩
        obtain ⟨a1, c1, d1, rfl, -⟩ := id hN.b1
        obtain ⟨a2, c2, d2, rfl, -⟩ := id hN.b2
        obtain ⟨a3, c3, d3, rfl, -⟩ := id hN.b3
        obtain ⟨a4, c4, d4, rfl, -⟩ := id hN.b4
        unfold clR vR bR aR wR
        rw [← hc, ← hp]
        exact ⟨_, _, _, _, _, _, _, _, _, _, _, _, rfl, hN, hb⟩)
      have he : expE ((k : Int) + p) = eR raw := by unfold eR; rw [← hc, ← hp, ← hk]
      have HSC : Hid (∀ (b : Nat) (v1 v2 v3 v4 : Value) (W : World), SpAt W w.heap.size b v1 v2 v3 v4 (clR raw) (vR raw) (bR raw) (aR raw) (wR raw) → w.heap.size ≤ W.heap.size → Calls Tryd.prog 34 #[.pointer (some ⟨b, 0, none⟩), .int .i64 ((k : Int) + p)] W fun e w' => e = .returned (.int .i64 (EX raw)) ∧ (∃ u1 u2 u3 u4, SpAt w' w.heap.size b u1 u2 u3 u4 (clR raw) (vR raw * tR raw) (bR raw * tR raw) (aR raw * tR raw) (WX raw)) ∧ Below w.heap.size W w') := fun b v1 v2 v3 v4 W h1 h2 => by
        obtain ⟨s1, s2, s3, s4, s5⟩ := dig_small hf
        have hlt := B_lt (show 899 < 999 by decide)
        have h9 := scale_any w.heap.size b v1 v2 v3 v4 (clR raw) (vR raw) (bR raw) (aR raw) (wR raw) ((k : Int) + p) W h1 h2 (by omega) (by omega) (by rw [he]; exact Nat.lt_trans s1 hlt) (by rw [he]; exact Nat.lt_trans s2 hlt) (by rw [he]; exact Nat.lt_trans s3 hlt) (by rw [he]; exact Nat.lt_trans s4 hlt)
        rw [he] at h9
        exact h9
      have HSR : Hid (∀ (b : Nat) (v1 v2 v3 v4 : Value) (W : World), SpAt W w.heap.size b v1 v2 v3 v4 (clR raw) (vR raw * tR raw) (bR raw * tR raw) (aR raw * tR raw) (WX raw) → w.heap.size ≤ W.heap.size → Calls Tryd.prog 36 #[.pointer (some ⟨b, 0, none⟩)] W fun e w' => ∃ a c l n, e = .returned (.slice a l.length c) ∧ shortF n (vR raw * tR raw) (bR raw * tR raw) (aR raw * tR raw) (WX raw) (clR raw) = some l ∧ w'.ownsRow w.heap.size 5 1 (.slice a l.length c) l.length (u8s l) ∧ Below w.heap.size W w') := fun b v1 v2 v3 v4 W h1 h2 => by
        obtain ⟨b1, b2, b3, b4⟩ := dig_bounds hf
        exact shortest_any w.heap.size b v1 v2 v3 v4 (clR raw) _ _ _ _ W h1 h2 b1 b2 b3 b4 (dig_small hf).2.2.2.2
      have HOUT : Hid (∀ (n : Nat) (l : List UInt8), shortF n (vR raw * tR raw) (bR raw * tR raw) (aR raw * tR raw) (WX raw) (clR raw) = some l → 0 < l.length ∧ digR raw = upR l (EX raw) ∧ (l.headD 0).toNat ≤ 58 ∧ (-2000 ≤ EX raw ∧ EX raw ≤ 2000)) := fun n l hl => by
        obtain ⟨h3, h4⟩ := shortF_good n _ _ _ _ _ l (dig_bounds hf).1 hl
        refine ⟨List.length_pos_iff.2 h3, dig_short hf hl, ?_, ?_⟩
        · cases l with
          | nil => exact absurd rfl h3
          | cons d t => exact (h4 d (by simp)).2
        · have q1 := hf.e1
          have q2 := hf.e2
          unfold EX scaleE
          split <;> omega
      clear hf he hc hp hk e1 e2
      cases neg with
      | false =>
        simp only [Bool.false_eq_true, if_false] at hand
        go_enter Tryd.func11, Tryd.ntmps11
        go_wp2_with (first
          | (go_at_call 32; refine hap.mono ?_; clear hap; rintro e w0 ⟨rfl, hw0⟩; have hw0 := hw0.symm; subst hw0)
          | (go_at_call 33; refine HSP.out.mono ?_; clear HSP; rintro e w1 ⟨a1, q1, k1, a2, q2, k2, a3, q3, k3, a4, q4, k4, rfl, hN1, hb1⟩; have HN1 : Hid (Nats w1 w.heap.size (.slice a1 q1 k1) (.slice a2 q2 k2) (.slice a3 q3 k3) (.slice a4 q4 k4) (vR raw) (bR raw) (aR raw) (wR raw)) := hN1; have HB1 : Hid (Below w.heap.size w w1) := hb1; have HS1 : Hid (SpAt (w1.alloc (.cells #[.slice a1 q1 k1, .slice a2 q2 k2, .slice a3 q3 k3, .slice a4 q4 k4, .bool (clR raw)] 68)) w.heap.size w1.heap.size (.slice a1 q1 k1) (.slice a2 q2 k2) (.slice a3 q3 k3) (.slice a4 q4 k4) (clR raw) (vR raw) (bR raw) (aR raw) (wR raw)) := ⟨heap_alloc_new w1 _, hb1.size, hN1.below ((Below.refl _ _).alloc (Nat.le_refl _) _)⟩; clear hN1 hb1)
          | (go_at_call 35; refine (HLN.out _).mono ?_; clear HLN; rintro e w2 ⟨rfl, hw2⟩; have hw2 := hw2.symm; subst hw2)
          | (go_at_call 34; refine (HSC.out _ _ _ _ _ _ HS1.out (by simp; exact Nat.le_succ_of_le HB1.out.size)).mono ?_; clear HSC; rintro e w3 ⟨rfl, ⟨u1, u2, u3, u4, hS3⟩, hb3⟩; have HS3 : Hid _ := hS3; have HB3 : Hid (Below w.heap.size w w3) := (HB1.out.alloc HB1.out.size _).trans hb3; clear hS3 hb3)
          | (go_at_call 36; refine (HSR.out _ _ _ _ _ _ HS3.out HB3.out.size).mono ?_; clear HSR; rintro e w4 ⟨ao, co, l, n, rfl, hl, hrow, hb4⟩; have HL : Hid _ := hl; have HR4 : Hid (w4.ownsRow w.heap.size 5 1 (.slice ao l.length co) l.length (u8s l)) := hrow; have HB4 : Hid (Below w.heap.size w w4) := HB3.out.trans hb4; clear hb4; obtain ⟨hl0, hl1, hl2, hl3⟩ := HOUT.out _ _ hl; obtain ⟨g, rfl⟩ := row_some hrow (by omega); have hcell : w4.cell? ⟨g, 0, none⟩ = some (.int .u8 ((l.headD 0).toNat : Nat)) := (head_cell hrow hl0); have hcv := conv_row hrow; obtain ⟨hd, hhd⟩ : ∃ hd, hd = (l.headD 0).toNat := ⟨_, rfl⟩; rw [← hhd] at hcell hl2; have HHD : Hid (hd = (l.headD 0).toNat) := hhd; clear hl hrow hhd; have HUP : Hid (digR raw = upR l (EX raw)) := hl1; clear hl1))
        · have h57 : 57 < (l.headD 0).toNat := by rw [← HHD.out]; omega
          go_ret3
          exact ⟨by rw [HDG.out, HUP.out, upR, if_pos h57]; rfl, HB4.out⟩
        · have h57 : ¬ 57 < (l.headD 0).toNat := by rw [← HHD.out]; omega
          go_ret3
          exact ⟨by rw [HDG.out, HUP.out, upR, if_neg h57]; rfl, HB4.out⟩
      | true =>
        simp only [if_true] at hand
        go_enter Tryd.func11, Tryd.ntmps11
        go_wp2_with (first
          | (go_at_call 32; refine hap.mono ?_; clear hap; rintro e w0 ⟨rfl, hw0⟩; have hw0 := hw0.symm; subst hw0)
          | (go_at_call 33; refine HSP.out.mono ?_; clear HSP; rintro e w1 ⟨a1, q1, k1, a2, q2, k2, a3, q3, k3, a4, q4, k4, rfl, hN1, hb1⟩; have HN1 : Hid (Nats w1 w.heap.size (.slice a1 q1 k1) (.slice a2 q2 k2) (.slice a3 q3 k3) (.slice a4 q4 k4) (vR raw) (bR raw) (aR raw) (wR raw)) := hN1; have HB1 : Hid (Below w.heap.size w w1) := hb1; have HS1 : Hid (SpAt (w1.alloc (.cells #[.slice a1 q1 k1, .slice a2 q2 k2, .slice a3 q3 k3, .slice a4 q4 k4, .bool (clR raw)] 68)) w.heap.size w1.heap.size (.slice a1 q1 k1) (.slice a2 q2 k2) (.slice a3 q3 k3) (.slice a4 q4 k4) (clR raw) (vR raw) (bR raw) (aR raw) (wR raw)) := ⟨heap_alloc_new w1 _, hb1.size, hN1.below ((Below.refl _ _).alloc (Nat.le_refl _) _)⟩; clear hN1 hb1)
          | (go_at_call 35; refine (HLN.out _).mono ?_; clear HLN; rintro e w2 ⟨rfl, hw2⟩; have hw2 := hw2.symm; subst hw2)
          | (go_at_call 34; refine (HSC.out _ _ _ _ _ _ HS1.out (by simp; exact Nat.le_succ_of_le HB1.out.size)).mono ?_; clear HSC; rintro e w3 ⟨rfl, ⟨u1, u2, u3, u4, hS3⟩, hb3⟩; have HS3 : Hid _ := hS3; have HB3 : Hid (Below w.heap.size w w3) := (HB1.out.alloc HB1.out.size _).trans hb3; clear hS3 hb3)
          | (go_at_call 36; refine (HSR.out _ _ _ _ _ _ HS3.out HB3.out.size).mono ?_; clear HSR; rintro e w4 ⟨ao, co, l, n, rfl, hl, hrow, hb4⟩; have HL : Hid _ := hl; have HR4 : Hid (w4.ownsRow w.heap.size 5 1 (.slice ao l.length co) l.length (u8s l)) := hrow; have HB4 : Hid (Below w.heap.size w w4) := HB3.out.trans hb4; clear hb4; obtain ⟨hl0, hl1, hl2, hl3⟩ := HOUT.out _ _ hl; obtain ⟨g, rfl⟩ := row_some hrow (by omega); have hcell : w4.cell? ⟨g, 0, none⟩ = some (.int .u8 ((l.headD 0).toNat : Nat)) := (head_cell hrow hl0); have hcv := conv_row hrow; obtain ⟨hd, hhd⟩ : ∃ hd, hd = (l.headD 0).toNat := ⟨_, rfl⟩; rw [← hhd] at hcell hl2; have HHD : Hid (hd = (l.headD 0).toNat) := hhd; clear hl hrow hhd; have HUP : Hid (digR raw = upR l (EX raw)) := hl1; clear hl1))
        · have h57 : 57 < (l.headD 0).toNat := by rw [← HHD.out]; omega
          go_ret3
          exact ⟨by rw [HDG.out, HUP.out, upR, if_pos h57]; rfl, HB4.out⟩
        · have h57 : ¬ 57 < (l.headD 0).toNat := by rw [← HHD.out]; omega
          go_ret3
          exact ⟨by rw [HDG.out, HUP.out, upR, if_neg h57]; rfl, HB4.out⟩
theorem digits_any (x : Nat) (w : World) (hx : x < 18446744073709551616) :
    Calls Tryd.prog 11 #[.float .f64 x] w fun e w' => e = .returned (.tuple #[.string ⟨(dgR (x % 9223372036854775808)).1.toArray⟩, .int .i64 (dgR (x % 9223372036854775808)).2, .bool (decide (9223372036854775808 ≤ x))]) ∧ Below w.heap.size w w' := by
  by_cases h : 9223372036854775808 ≤ x
  · rw [decide_eq_true h]
    exact digits_core x _ true w (and_sign_hi (r := x - 9223372036854775808) (by omega) (by omega)) (andnot_sign hx) (Nat.mod_lt _ (by decide))
  · rw [decide_eq_false h]
    exact digits_core x _ false w (and_sign_lo (by omega)) (andnot_sign hx) (Nat.mod_lt _ (by decide))
end Go.Proofs.YtinfnkhghmcelaaDoor

/- The text of 0.1. -/
namespace Go.Proofs.YtinfnkhghmcelaaDoor
open Go.RowKit Go.Maps

theorem dig_tenth : dgR 4591870180066957722 = ([49], 0) := by kernel_rfl

set_option maxRecDepth 100000 in
theorem repeat_zero (s : ByteArray) (w : World) : Calls Tryd.prog 73 #[.string s, .int .i64 0] w fun e w' => e = .returned (.string ⟨#[]⟩) ∧ w' = w := by
  go_enter Tryd.func73, Tryd.ntmps73
  go_wp2
  go_ret
  exact ⟨rfl, rfl⟩

set_option maxRecDepth 100000 in
theorem plain_tenth (w : World) : Calls Tryd.prog 42 #[.string ⟨#[49]⟩, .int .i64 0] w fun e w' => e = .returned (.string ⟨#[48, 46, 49]⟩) ∧ w' = w := by
  have hr := repeat_zero ⟨#[48]⟩ w
  go_enter Tryd.func42, Tryd.ntmps42
  go_wp2_with (go_at_call 73; refine hr.mono ?_; clear hr; rintro e w1 ⟨rfl, hw1⟩; have hw1 := hw1.symm; subst hw1)
  go_ret
  exact ⟨rfl, rfl⟩

set_option maxRecDepth 100000 in
theorem text_tenth (w : World) : Calls Tryd.prog 13 #[.float .f64 4591870180066957722] w fun e w' => e = .returned (.string ⟨#[48, 46, 49]⟩) ∧ Below w.heap.size w w' := by
  have hd := digits_any 4591870180066957722 w (by decide)
  rw [show 4591870180066957722 % 9223372036854775808 = 4591870180066957722 from rfl, dig_tenth, show decide (9223372036854775808 ≤ 4591870180066957722) = false from rfl] at hd
  have hfb := floatbits_run
  have hp := plain_tenth
  have hand := andnot_sign (x := 4591870180066957722) (by decide)
  have hand2 : bits .andNot .u64 4591870180066957722 9223372036854775808 = 4591870180066957722 := hand
  clear hand
  go_enter Tryd.func13, Tryd.ntmps13
  go_wp2_with (first
    | (go_at_call 11; refine hd.mono ?_; clear hd; rintro e w1 ⟨rfl, hb1⟩; have HB1 : Hid (Below w.heap.size w w1) := hb1; clear hb1)
    | (go_at_call 42; refine (hp _).mono ?_; clear hp; rintro e w2 ⟨rfl, hw2⟩; have hw2 := hw2.symm; subst hw2))
  go_ret
  exact ⟨rfl, HB1.out⟩
end Go.Proofs.YtinfnkhghmcelaaDoor

/- A Builder. -/
namespace Go.Proofs.YtinfnkhghmcelaaDoor
open Go.RowKit Go.Maps

/-- A Builder that holds these bytes. -/
def Bd (B b : Nat) (bs : List UInt8) (w : World) : Prop := Lib.IsBuilderF 91 5 B b (Lib.byteCells bs) w
/-- What its methods leave as it was. -/
structure BK (B b : Nat) (w w' : World) : Prop where
  below : Below B w w'
  others : Lib.OthersKept 5 (some b) w w'
theorem BK.refl (B b : Nat) (w : World) : BK B b w w := ⟨Below.refl _ _, Lib.OthersKept.refl _ _ _⟩
theorem BK.trans {B b : Nat} {x y z : World} (h : BK B b x y) (k : BK B b y z) : BK B b x z := ⟨h.below.trans k.below, h.others.trans k.others⟩

theorem byteCells_append (a b : List UInt8) : Lib.byteCells (a ++ b) = Lib.byteCells a ++ Lib.byteCells b := by simp [Lib.byteCells]

theorem wb_any (B b : Nat) (bs : List UInt8) (c : UInt8) (w : World) (h : Bd B b bs w) (hl : bs.length ≤ 1000000000) (hB : B ≤ w.heap.size) :
    Calls Tryd.prog 54 #[.pointer (some ⟨b, 0, none⟩), .int .u8 c.toNat] w fun e w' => e = .returned .nilIface ∧ Bd B b (bs ++ [c]) w' ∧ BK B b w w' := by
  refine (Any.Builder_WriteByte_k Tryd.lays167 Tryd.Builder_Extra_167 B b (Lib.byteCells bs) c.toNat w h (by rw [Lib.byteCells_length]; omega) hB).mono ?_
  rintro e w' ⟨he, h1, h2, h3⟩
  refine ⟨he, Or.inr ?_, h2, h3⟩
  rw [byteCells_append]
  exact h1
theorem ws_any (B b : Nat) (bs : List UInt8) (s : ByteArray) (w : World) (h : Bd B b bs w) (hl : bs.length ≤ 1000000000) (hs : s.size ≤ 1000000000) (hB : B ≤ w.heap.size) :
    Calls Tryd.prog 56 #[.pointer (some ⟨b, 0, none⟩), .string s] w fun e w' => e = .returned (.tuple #[.int .i64 s.size, .nilIface]) ∧ Bd B b (bs ++ s.data.toList) w' ∧ BK B b w w' := by
  refine (Any.Builder_WriteString_k Tryd.lays166 Tryd.Builder_Extra_166 B b (Lib.byteCells bs) s w h (by rw [Lib.byteCells_length]; omega) hB).mono ?_
  rintro e w' ⟨he, h1, h2, h3⟩
  refine ⟨he, Or.inr ?_, h2, h3⟩
  rw [byteCells_append]
  exact h1

theorem wb_lit (B b : Nat) (bs : List UInt8) (c : UInt8) (n : Int) (hn : (c.toNat : Int) = n) (w : World) (h : Bd B b bs w) (hl : bs.length ≤ 1000000000) (hB : B ≤ w.heap.size) :
    Calls Tryd.prog 54 #[.pointer (some ⟨b, 0, none⟩), .int .u8 n] w fun e w' => e = .returned .nilIface ∧ Bd B b (bs ++ [c]) w' ∧ BK B b w w' := by
  subst hn
  exact wb_any B b bs c w h hl hB

end Go.Proofs.YtinfnkhghmcelaaDoor

/- Durations as texts. -/
namespace Go.Proofs.YtinfnkhghmcelaaDoor
open Go.RowKit Go.Maps

set_option maxRecDepth 100000 in
theorem fu_inner (i : Nat) (hi : i < 100) (w : World) : Calls Tryd.prog 77 #[.int .u64 i, .int .i64 10] w fun e w' => e = .returned (.string ⟨(Lib.decDigits i).toArray⟩) ∧ w' = w := by
  have hs := Any.internal_strconv_small Tryd.lays283 i hi w
  have hs : Calls Tryd.prog 86 #[.int .i64 i] w fun e w' => e = .returned (.string ⟨(Lib.decDigits i).toArray⟩) ∧ w' = w := hs
  generalize Lib.decDigits i = D at *
  go_enter Tryd.func77, Tryd.ntmps77
  go_wp2_with (go_at_call 86; refine hs.mono ?_; clear hs; rintro e w1 ⟨rfl, hw1⟩; have hw1 := hw1.symm; subst hw1)
  go_ret
  exact ⟨rfl, rfl⟩
set_option maxRecDepth 100000 in
theorem fu_small (i : Nat) (hi : i < 100) (w : World) : Calls Tryd.prog 57 #[.int .u64 i, .int .i64 10] w fun e w' => e = .returned (.string ⟨(Lib.decDigits i).toArray⟩) ∧ Below w.heap.size w w' := by
  have hs := fu_inner i hi w
  generalize Lib.decDigits i = D at *
  go_enter Tryd.func57, Tryd.ntmps57
  go_wp2_with (go_at_call 77; refine hs.mono ?_; clear hs; rintro e w1 ⟨rfl, hw1⟩; have hw1 := hw1.symm; subst hw1)
  go_ret
  exact ⟨rfl, Below.refl _ _⟩

/-- The units of durations, as the program lays them. -/
def unitsL : List (List UInt8 × Nat) := [([121], 31536000000), ([119], 604800000), ([100], 86400000), ([104], 3600000), ([109], 60000), ([115], 1000), ([109, 115], 1)]
def Units (w : World) : Prop := w.cell? ⟨1, 0, none⟩ = some (.string ⟨#[121]⟩) ∧ w.cell? ⟨1, 1, none⟩ = some (.int .i64 31536000000) ∧ w.cell? ⟨1, 2, none⟩ = some (.string ⟨#[119]⟩) ∧ w.cell? ⟨1, 3, none⟩ = some (.int .i64 604800000) ∧ w.cell? ⟨1, 4, none⟩ = some (.string ⟨#[100]⟩) ∧ w.cell? ⟨1, 5, none⟩ = some (.int .i64 86400000) ∧ w.cell? ⟨1, 6, none⟩ = some (.string ⟨#[104]⟩) ∧ w.cell? ⟨1, 7, none⟩ = some (.int .i64 3600000) ∧ w.cell? ⟨1, 8, none⟩ = some (.string ⟨#[109]⟩) ∧ w.cell? ⟨1, 9, none⟩ = some (.int .i64 60000) ∧ w.cell? ⟨1, 10, none⟩ = some (.string ⟨#[115]⟩) ∧ w.cell? ⟨1, 11, none⟩ = some (.int .i64 1000) ∧ w.cell? ⟨1, 12, none⟩ = some (.string ⟨#[109, 115]⟩) ∧ w.cell? ⟨1, 13, none⟩ = some (.int .i64 1) ∧ 1 < w.heap.size
theorem Units.below {w w' : World} (h : Units w) (hb : Below w.heap.size w w') : Units w' := by
  have hs := hb.size
  obtain ⟨h0, h1, h2, h3, h4, h5, h6, h7, h8, h9, h10, h11, h12, h13, hl⟩ := h
  exact ⟨(hb.cell (p := ⟨1, 0, none⟩) hl).trans h0, (hb.cell (p := ⟨1, 1, none⟩) hl).trans h1, (hb.cell (p := ⟨1, 2, none⟩) hl).trans h2, (hb.cell (p := ⟨1, 3, none⟩) hl).trans h3, (hb.cell (p := ⟨1, 4, none⟩) hl).trans h4, (hb.cell (p := ⟨1, 5, none⟩) hl).trans h5, (hb.cell (p := ⟨1, 6, none⟩) hl).trans h6, (hb.cell (p := ⟨1, 7, none⟩) hl).trans h7, (hb.cell (p := ⟨1, 8, none⟩) hl).trans h8, (hb.cell (p := ⟨1, 9, none⟩) hl).trans h9, (hb.cell (p := ⟨1, 10, none⟩) hl).trans h10, (hb.cell (p := ⟨1, 11, none⟩) hl).trans h11, (hb.cell (p := ⟨1, 12, none⟩) hl).trans h12, (hb.cell (p := ⟨1, 13, none⟩) hl).trans h13, by omega⟩
/-- The parts of a duration, the first ones. -/
def durS (u : List UInt8 × Nat) (s : List UInt8 × Nat) : List UInt8 × Nat := (s.1 ++ (if 0 < s.2 / u.2 then Lib.decDigits (s.2 / u.2) ++ u.1 else []), s.2 % u.2)
def durK (n : Nat) (k : Nat) : List UInt8 × Nat := (unitsL.take k).foldl (fun s u => durS u s) ([], n)
theorem durK_succ (n k : Nat) (hk : k < 7) (u : List UInt8 × Nat) (hu : unitsL[k]? = some u) : durK n (k + 1) = durS u (durK n k) := by
  unfold durK
  have h1 : k < unitsL.length := hk
  rw [List.take_succ_eq_append_getElem h1, List.foldl_append]
  have h2 : unitsL[k] = u := by
    rw [List.getElem?_eq_getElem h1] at hu
    exact Option.some.inj hu
  rw [h2]
  rfl
end Go.Proofs.YtinfnkhghmcelaaDoor
