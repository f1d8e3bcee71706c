/- The document's expansion of a float. -/
import Derived.Test.YtinfnkhghmcelaaDoorMJe
import Derived.Test.YtinfnkhghmcelaaDoorMJd
import Derived.Deep.CutRange
namespace Go.Proofs.YtinfnkhghmcelaaDoor
open Go.RowKit Go.Maps

def AX (raw : Nat) (x : Int) : Nat := (apartN raw).1 * 2 ^ (apartN raw).2.toNat * 10 ^ (-x).toNat
def BX (raw : Nat) (x : Int) : Nat := 1 * 2 ^ (-(apartN raw).2).toNat * 10 ^ x.toNat
theorem row_q {w : World} {base l c r : Nat} {a : Option Addr} (h : w.ownsRow base 3 1 (.slice a l c) l (i64s (digQ r))) (hl : l = (digQ r).length) : QAt w (.slice a l c) r := by
  subst hl
  exact DRow.at (base := base) h
/-- Rows made one behind the other lie apart. -/
theorem row_apart {w w' : World} {base l c n c' : Nat} {a ao : Option Addr} {xs ys : List Value} (h : w'.ownsRow w.heap.size 3 1 (.slice a l c) l xs) (h' : w.ownsRow base 3 1 (.slice ao n c') n ys) : (Value.slice a l c).ownBlock = none ∨ (Value.slice a l c).ownBlock ≠ (Value.slice ao n c').ownBlock := by
  cases ha : (Value.slice a l c).ownBlock with
  | none => exact Or.inl rfl
  | some k =>
    right
    intro e
    have h1 := (h.lt k ha).1
    have h2 := (h'.lt k e.symm).2
    omega
theorem two_53x : (2 : Nat) ^ 53 = 9007199254740992 := by decide +kernel
theorem dgs_step {R B d r : Nat} (h : d * B + r = R * 10) (hr : r < B) : R * 10 / B = d ∧ R * 10 % B = r := by
  have hB : 0 < B := by omega
  constructor
  · rw [← h, Nat.add_comm, Nat.add_mul_div_right _ _ hB, Nat.div_eq_of_lt hr, Nat.zero_add]
  · rw [← h, Nat.add_comm, Nat.add_mul_mod_self_right, Nat.mod_eq_of_lt hr]
theorem dgs_less {R B d r : Nat} (h : d * B + r = R * 10) (hR : R < B) (hr : B ≤ r) : d + 1 < 10 := by
  apply Classical.byContradiction
  intro h9
  have h1 : 10 * B ≤ (d + 1) * B := Nat.mul_le_mul_right _ (by omega)
  rw [Nat.add_mul, Nat.one_mul] at h1
  omega
theorem AX_lt {raw : Nat} {x : Int} (h0 : 0 < raw) (hraw : raw < 9218868437227405312) (h : ¬ leX raw x) : AX raw x < BX raw x := by
  have hm := magF_raw raw (by omega)
  have hc : cR raw = (apartN raw).1 := rfl
  have hp : pR raw = (apartN raw).2 := rfl
  rw [hc, hp] at hm
  obtain ⟨b1, b2, b3, b4⟩ := apart_in h0 hraw
  unfold leX at h
  unfold AX BX
  generalize (apartN raw).1 = m at *
  generalize (apartN raw).2 = e at *
  obtain ⟨b, hb74, hU⟩ := U74_eq
  rw [hm, hU] at h
  have e1 := cmp_scale (m * 10 ^ (-x).toNat) (1 * 10 ^ x.toNat) b e (by omega)
  have h2 : cmpN (m * 10 ^ (-x).toNat * 2 ^ (e + b).toNat) (1 * 10 ^ x.toNat * 2 ^ b) < 0 := by
    rw [cmpN_lt, Nat.one_mul, show (e + (b : Int)).toNat = (e + 1074).toNat by omega, Nat.mul_right_comm]
    omega
  rw [← e1, cmpN_lt] at h2
  rw [Nat.mul_right_comm, Nat.mul_right_comm 1]
  exact h2

set_option maxRecDepth 100000 in
set_option maxHeartbeats 4000000 in
theorem refExpansion_any (raw : Nat) (w : World) (h0 : 0 < raw) (hraw : raw < 9218868437227405312) :
    Calls Tryd.prog 37 #[.int .u64 raw] w fun ee w' => ∃ (X : Int) (a : Option Addr) (c : Nat), ee = .returned (.tuple #[.slice a 18 c, .int .i64 X]) ∧ (leX raw (X - 1) ∧ ¬ leX raw X) ∧ (-330 ≤ X ∧ X ≤ 330) ∧ w'.ownsRow w.heap.size 3 1 (.slice a 18 c) 18 (i64s (dgs 18 (AX raw X) (BX raw X))) ∧ Below w.heap.size w w' := by
  have HO1 : Hid (∀ W : World, Calls Tryd.prog 68 #[.int .i64 1] W fun e w' => ∃ a l c, e = .returned (.slice a l c) ∧ QAt w' (.slice a l c) 1 ∧ Below W.heap.size W w') := fun W => (refOf_any 1 W (by decide)).mono (by
    rintro e w' ⟨v, rfl, hq, hb⟩
    obtain ⟨a, c, rfl⟩ := hq.form
    exact ⟨a, _, c, rfl, hq, hb⟩)
  have HO2 : Hid (∀ W : World, Calls Tryd.prog 68 #[.int .i64 1] W fun e w' => ∃ a l c, e = .returned (.slice a l c) ∧ QAt w' (.slice a l c) 1 ∧ Below W.heap.size W w') := HO1.out
  have HOM : Hid (∀ W : World, Calls Tryd.prog 68 #[.int .i64 (apartN raw).1] W fun e w' => ∃ a l c, e = .returned (.slice a l c) ∧ QAt w' (.slice a l c) (apartN raw).1 ∧ Below W.heap.size W w') := fun W => (refOf_any (apartN raw).1 W (by have := apart_in h0 hraw; omega)).mono (by
    rintro e w' ⟨v, rfl, hq, hb⟩
    obtain ⟨a, c, rfl⟩ := hq.form
    exact ⟨a, _, c, rfl, hq, hb⟩)
  have HPT : Hid (∀ W : World, Calls Tryd.prog 52 #[.int .u64 raw] W fun e w' => e = .returned (.tuple #[.int .i64 (apartN raw).1, .int .i64 (apartN raw).2]) ∧ w' = W) := fun W => refParts_any raw W (by omega)
  obtain ⟨hN, hest⟩ := est_le h0 hraw (N := (apartN raw).2 + ((apartN raw).1.log2 + 1 : Nat)) rfl
  have hein := estT_in hN.1 hN.2
  have HBF : Hid (∀ (W : World) (a : Option Addr) (l c : Nat) (x : Int), QAt W (.slice a l c) 1 → -1000 ≤ x → x ≤ 1000 → Calls Tryd.prog 53 #[.int .i64 (apartN raw).1, .int .i64 (apartN raw).2, .agg #[.slice a l c, .int .i64 x]] W fun ee w' => ee = .returned (.int .i64 (cmpN (magF raw * 10 ^ (-x).toNat) (1 * 10 ^ x.toNat * U74))) ∧ Below W.heap.size W w') := fun W a l c x hq h1 h2 => below_float raw 1 l c 1 x a W hq hraw (by decide) (by decide) h1 h2
  have HAB : Hid (∀ X : Int, ¬ leX raw X → AX raw X < BX raw X) := fun X hX => AX_lt h0 hraw hX
  have HTOP : Hid (∀ x : Int, leX raw x → x < 320) := fun x hx => leX_top hraw hx
  have HCM : Hid (∀ x : Int, 0 ≤ cmpN (magF raw * 10 ^ (-x).toNat) (1 * 10 ^ x.toNat * U74) ↔ leX raw x) := cmp_leX raw
  have HLN : Hid (∀ (X : Int) (n : Nat), -330 ≤ X → X ≤ 330 → n ≤ BX raw X * 10 → (digQ n).length ≤ 40000) := fun X n h1 h2 hn => by
    refine Nat.le_trans (digQ_mono hn) ?_
    unfold BX
    rw [Nat.mul_assoc, ← Nat.pow_succ]
    have hb := apart_in h0 hraw
    exact digQ_size (j := 1) (by decide) (by omega)
  have HLA : Hid ((digQ ((apartN raw).1 * 2 ^ (apartN raw).2.toNat)).length ≤ 40000 ∧ (digQ (1 * 2 ^ (-(apartN raw).2).toNat)).length ≤ 40000 ∧ (∀ X : Int, -330 ≤ X → X ≤ 330 → (digQ (AX raw X)).length ≤ 40000 ∧ (digQ (BX raw X)).length ≤ 40000)) := by
    have hb := apart_in h0 hraw
    have hm4 : (apartN raw).1 < 10000 ^ 4 := by omega
    have q1 := digQ_size (M := (apartN raw).1) (E := (apartN raw).2.toNat) (X := 0) (j := 4) hm4 (by omega)
    have q2 := digQ_size (M := 1) (E := (-(apartN raw).2).toNat) (X := 0) (j := 1) (by decide) (by omega)
    rw [Nat.pow_zero, Nat.mul_one] at q1 q2
    exact ⟨q1, q2, fun X h1 h2 => ⟨digQ_size (j := 4) hm4 (by omega), digQ_size (j := 1) (by decide) (by omega)⟩⟩
  obtain ⟨hb1, hb2, hb3, hb4⟩ := apart_in h0 hraw
  have HDEF : Hid (∀ X : Int, AX raw X = (apartN raw).1 * 2 ^ (apartN raw).2.toNat * 10 ^ (-X).toNat ∧ BX raw X = 1 * 2 ^ (-(apartN raw).2).toNat * 10 ^ X.toNat) := fun X => ⟨rfl, rfl⟩
  generalize (apartN raw).1 = m at *
  generalize (apartN raw).2 = e at *
  have hlog := (Nat.log2_eq_iff (n := m) (k := m.log2) (by omega)).1 rfl
  have HLG : Hid (2 ^ m.log2 ≤ m ∧ m < 2 ^ (m.log2 + 1)) := hlog
  have hl52 : m.log2 ≤ 52 := log_lt (k := 52) (by omega) (by omega)
  generalize m.log2 = L at *
  clear hlog
  obtain ⟨S, hS⟩ : ∃ S : Nat, S = L + 1 := ⟨_, rfl⟩
  rw [← hS] at hest hein hN HLG
  obtain ⟨T, hT⟩ : ∃ T : Int, ((e + (S : Int)) * 30103).tdiv 100000 = T := ⟨_, rfl⟩
  have hTe : estT (e + (S : Int)) = T := hT
  rw [hTe] at hest hein
  have HEST : Hid (leX raw (T - 3)) := hest
  have HSL : Hid (S = L + 1) := hS
  have hS53 : S ≤ 53 := by omega
  obtain ⟨hN1, hN2⟩ := hN
  obtain ⟨hT1, hT2⟩ := hein
  clear hest hTe hS
  go_enter Tryd.func37, Tryd.ntmps37
  go_wp2_with (go_at_call 52; refine (HPT.out _).mono ?_; clear HPT; rintro e9 w1 ⟨rfl, hw1⟩; have hw1 := hw1.symm; subst hw1)
  go_loop [6] (fun kv => ∃ k : Nat, kv = .int .i64 k ∧ k ≤ S) (fun kv => S - (intOf kv).toNat)
  case atStart => exact ⟨0, rfl, by omega⟩
  case round =>
    obtain ⟨k, rfl, hk⟩ := hrel
    have hk53 : k ≤ 53 := by omega
    have hpw : wrap64 ((2 : Int) ^ k) = ((2 ^ k : Nat) : Int) := by
      have h1 : ((2 : Int) ^ k) = ((2 ^ k : Nat) : Int) := by simp
      have h2 : 2 ^ k ≤ 2 ^ 53 := Nat.pow_le_pow_right (by decide) hk53
      rw [two_53x] at h2
      rw [h1]
      generalize 2 ^ k = P at h2 ⊢
      unfold wrap64
      omega
    by_cases hkL : k < S
    · have hpk : 2 ^ k ≤ m := Nat.le_trans (Nat.pow_le_pow_right (by decide) (by rw [HSL.out] at hkL; omega)) HLG.out.1
      generalize 2 ^ k = P at *
      have hpi : (P : Int) ≤ m := by omega
      go_wp2
      go_round
      case rel => exact ⟨k + 1, by go_num, by omega⟩
      case measure => simp [intOf]; omega
    · obtain rfl : k = S := by omega
      have hpk : m < 2 ^ k := HLG.out.2
      generalize 2 ^ k = P at *
      have hpi : ¬ (P : Int) ≤ m := by omega
      clear hkL HLG hl52
      go_wp2
      go_loopw [7] (fun xv wr => ∃ x : Int, xv = .int .i64 x ∧ -330 ≤ x ∧ x ≤ 321 ∧ Hid (leX raw (x - 1) ∧ Below w.heap.size w wr)) (fun xv _ => (400 - intOf xv).toNat)
      case atStart => exact ⟨T - 2, rfl, by omega, by omega, by rw [show T - 2 - 1 = T - 3 by omega]; exact HEST.out, Below.refl _ _⟩
      case round =>
        clear HEST hpi hpw hpk hT hT1 hT2 hN1 hN2 HSL
        obtain ⟨x, rfl, hx1, hx2, HI⟩ := hrel
        have HBL : Hid (Below w.heap.size w wr) := HI.out.2
        have h1000 : -1000 ≤ x ∧ x ≤ 1000 := by omega
        by_cases hle : leX raw x
        · have hx3 := HTOP.out x hle
          have hC := (HCM.out x).2 hle
          have HB3 : Hid (∀ (W : World) (a : Option Addr) (l c : Nat), QAt W (.slice a l c) 1 → Calls Tryd.prog 53 #[.int .i64 m, .int .i64 e, .agg #[.slice a l c, .int .i64 x]] W fun ee w' => ee = .returned (.int .i64 (cmpN (magF raw * 10 ^ (-x).toNat) (1 * 10 ^ x.toNat * U74))) ∧ Below W.heap.size W w') := fun W a l c hq => HBF.out W a l c x hq h1000.1 h1000.2
          have HLE : Hid (leX raw x) := hle
          clear hle
          generalize cmpN (magF raw * 10 ^ (-x).toNat) (1 * 10 ^ x.toNat * U74) = C at *
          go_wp2_with (first
            | (go_at_call 68; refine (HO1.out _).mono ?_; rintro e9 w2 ⟨a2, l2, c2, rfl, hq2, hb2⟩; have HB2 : Hid (Below w.heap.size w w2) := HBL.out.trans (hb2.mono HBL.out.size); have HQ2 : Hid (QAt w2 (.slice a2 l2 c2) 1) := hq2; clear hb2 hq2)
            | (go_at_call 53; refine (HB3.out _ _ _ _ HQ2.out).mono ?_; rintro e9 w3 ⟨rfl, hb3⟩; have HB4 : Hid (Below w.heap.size w w3) := HB2.out.trans (hb3.mono HB2.out.size); clear hb3))
          go_roundw
          case rel => exact ⟨x + 1, rfl, by omega, by omega, by rw [show x + 1 - 1 = x by omega]; exact HLE.out, HB4.out⟩
          case measure => simp [intOf]; omega
        · have hC := fun h => hle ((HCM.out x).1 h)
          have hCn : ¬ (0 : Int) ≤ cmpN (magF raw * 10 ^ (-x).toNat) (1 * 10 ^ x.toNat * U74) := hC
          have HB3 : Hid (∀ (W : World) (a : Option Addr) (l c : Nat), QAt W (.slice a l c) 1 → Calls Tryd.prog 53 #[.int .i64 m, .int .i64 e, .agg #[.slice a l c, .int .i64 x]] W fun ee w' => ee = .returned (.int .i64 (cmpN (magF raw * 10 ^ (-x).toNat) (1 * 10 ^ x.toNat * U74))) ∧ Below W.heap.size W w') := fun W a l c hq => HBF.out W a l c x hq h1000.1 h1000.2
          have HLE : Hid (leX raw (x - 1) ∧ ¬ leX raw x) := ⟨HI.out.1, hle⟩
          have HLT : Hid (AX raw x < BX raw x) := HAB.out x hle
          have HLNX : Hid (∀ n, n ≤ BX raw x * 10 → (digQ n).length ≤ 40000) := fun n hn => HLN.out x n (by omega) (by omega) hn
          have HLAX : Hid ((digQ (m * 2 ^ e.toNat)).length ≤ 40000 ∧ (digQ (1 * 2 ^ (-e).toNat)).length ≤ 40000 ∧ (digQ (AX raw x)).length ≤ 40000 ∧ (digQ (BX raw x)).length ≤ 40000) := ⟨HLA.out.1, HLA.out.2.1, (HLA.out.2.2 x (by omega) (by omega)).1, (HLA.out.2.2 x (by omega) (by omega)).2⟩
          have HDX : Hid (AX raw x = m * 2 ^ e.toNat * 10 ^ (-x).toNat ∧ BX raw x = 1 * 2 ^ (-e).toNat * 10 ^ x.toNat) := HDEF.out x
          clear hle hC HI HCM HAB HTOP HLN HLA HDEF HBF
          generalize cmpN (magF raw * 10 ^ (-x).toNat) (1 * 10 ^ x.toNat * U74) = C at *
          generalize hAX : AX raw x = A at *
          generalize hBX : BX raw x = B at *
          have HAX : Hid (AX raw x = A ∧ BX raw x = B) := ⟨hAX, hBX⟩
          clear hAX hBX
          go_upto_if 43 with (first
            | (go_at_call 68; first | (refine (HO1.out _).mono ?_; clear HO1; rintro e9 w2 ⟨a2, l2, c2, rfl, hq2, hb2⟩; have HB2 : Hid (Below w.heap.size w w2) := HBL.out.trans (hb2.mono HBL.out.size); have HQ2 : Hid (QAt w2 (.slice a2 l2 c2) 1) := hq2; clear hb2 hq2) | (refine (HOM.out _).mono ?_; clear HOM; rintro e9 w5 ⟨a5, l5, c5, rfl, hq5, hb5⟩; have HB5 : Hid (Below w.heap.size w w5) := HB4.out.trans (hb5.mono HB4.out.size); have HQ5 : Hid (QAt w5 (.slice a5 l5 c5) m) := hq5; clear hb5 hq5) | (refine (HO2.out _).mono ?_; clear HO2; rintro e9 w6 ⟨a6, l6, c6, rfl, hq6, hb6⟩; have HB6 : Hid (Below w.heap.size w w6) := HB5.out.trans (hb6.mono HB5.out.size); have HQ6 : Hid (QAt w6 (.slice a6 l6 c6) 1) := hq6; have HQA : Hid (QAt w6 (.slice a5 l5 c5) m) := HQ5.out.below hb6; clear hb6 hq6))
            | (go_at_call 53; refine (HB3.out _ _ _ _ HQ2.out).mono ?_; rintro e9 w3 ⟨rfl, hb3⟩; have HB4 : Hid (Below w.heap.size w w3) := HB2.out.trans (hb3.mono HB2.out.size); clear hb3))
          clear HB3 HQ2 HQ5 HB2 HB4 HB5 hCn HBL
          go_cut [8, 9, 43] from 44 to 50 (fun av bv _ wx => ∃ a1 l1 c1 a2 l2 c2, av = .slice a1 l1 c1 ∧ bv = .slice a2 l2 c2 ∧ Hid (QAt wx (.slice a1 l1 c1) (m * 2 ^ e.toNat) ∧ QAt wx (.slice a2 l2 c2) (1 * 2 ^ (-e).toNat) ∧ Below w.heap.size w wx))
          case first =>
            by_cases hep : 0 < e
            · obtain ⟨E, rfl⟩ : ∃ E : Nat, e = E := ⟨e.toNat, by omega⟩
              have HPW : Hid (Calls Tryd.prog 69 #[.slice a5 l5 c5, .int .i64 2, .int .i64 E] w6 fun e w' => ∃ v', e = .returned v' ∧ QAt w' v' (m * 2 ^ E) ∧ Below w6.heap.size w6 w') := refPow2_any _ m E w6 HQA.out (by omega) (by have := HLAX.out.1; rwa [Int.toNat_natCast] at this)
              go_wp2_with (go_at_call 69; refine HPW.out.mono ?_; clear HPW; rintro e9 w7 ⟨v7, rfl, hq7, hb7⟩; obtain ⟨a7, c7, rfl⟩ := hq7.form)
              go_meet
              exact ⟨a7, _, c7, a6, l6, c6, rfl, rfl, by rw [Int.toNat_natCast]; exact hq7, by rw [show (-(E : Int)).toNat = 0 by omega, Nat.pow_zero, Nat.mul_one]; exact HQ6.out.below hb7, HB6.out.trans (hb7.mono HB6.out.size)⟩
            · obtain ⟨E, rfl⟩ : ∃ E : Nat, e = -(E : Int) := ⟨(-e).toNat, by omega⟩
              have HPW : Hid (Calls Tryd.prog 69 #[.slice a6 l6 c6, .int .i64 2, .int .i64 E] w6 fun e w' => ∃ a l c, e = .returned (.slice a l c) ∧ QAt w' (.slice a l c) (1 * 2 ^ E) ∧ Below w6.heap.size w6 w') := (refPow2_any _ 1 E w6 HQ6.out (by omega) (by have := HLAX.out.2.1; rwa [Int.neg_neg, Int.toNat_natCast] at this)).mono (by
                rintro e w' ⟨v, rfl, hq, hb⟩
                obtain ⟨a, c, rfl⟩ := hq.form
                exact ⟨a, _, c, rfl, hq, hb⟩)
              go_wp2_with (go_at_call 69; refine HPW.out.mono ?_; clear HPW; rintro e9 w7 ⟨a7, l7, c7, rfl, hq7, hb7⟩)
              go_meet
              exact ⟨a5, l5, c5, a7, l7, c7, rfl, rfl, by rw [show (-(E : Int)).toNat = 0 by omega, Nat.pow_zero, Nat.mul_one]; exact HQA.out.below hb7, by rw [Int.neg_neg, Int.toNat_natCast]; exact hq7, HB6.out.trans (hb7.mono HB6.out.size)⟩
          case rest =>
            clear HQA HQ6 HB6
            obtain ⟨a1, l1, c1, a2, l2, c2, rfl, rfl, HI⟩ := hcut
            go_upto_if 52 with fail
            go_cut [8, 9, 52] from 53 to 59 (fun av bv _ wx => ∃ a1 l1 c1 a2 l2 c2, av = .slice a1 l1 c1 ∧ bv = .slice a2 l2 c2 ∧ Hid (QAt wx (.slice a1 l1 c1) A ∧ QAt wx (.slice a2 l2 c2) B ∧ Below w.heap.size w wx))
            case first =>
              by_cases hep : 0 < x
              · obtain ⟨Y, rfl⟩ : ∃ Y : Nat, x = Y := ⟨x.toNat, by omega⟩
                have HPW : Hid (Calls Tryd.prog 69 #[.slice a2 l2 c2, .int .i64 10, .int .i64 Y] wc fun e w' => ∃ v', e = .returned v' ∧ QAt w' v' B ∧ Below wc.heap.size wc w') := by
                  have h9 := refPow10_any _ (1 * 2 ^ (-e).toNat) Y wc HI.out.2.1 (by omega) (by have := HLAX.out.2.2.2; rwa [HDX.out.2, Int.toNat_natCast] at this)
                  rw [HDX.out.2, Int.toNat_natCast]
                  exact h9
                go_wp2_with (go_at_call 69; refine HPW.out.mono ?_; clear HPW; rintro e9 w7 ⟨v7, rfl, hq7, hb7⟩; obtain ⟨a7, c7, rfl⟩ := hq7.form)
                go_meet
                exact ⟨a1, l1, c1, a7, _, c7, rfl, rfl, by rw [HDX.out.1, show (-(Y : Int)).toNat = 0 by omega, Nat.pow_zero, Nat.mul_one]; exact HI.out.1.below hb7, hq7, HI.out.2.2.trans (hb7.mono HI.out.2.2.size)⟩
              · obtain ⟨Y, rfl⟩ : ∃ Y : Nat, x = -(Y : Int) := ⟨(-x).toNat, by omega⟩
                have HPW : Hid (Calls Tryd.prog 69 #[.slice a1 l1 c1, .int .i64 10, .int .i64 Y] wc fun e w' => ∃ v', e = .returned v' ∧ QAt w' v' A ∧ Below wc.heap.size wc w') := by
                  have h9 := refPow10_any _ (m * 2 ^ e.toNat) Y wc HI.out.1 (by omega) (by have := HLAX.out.2.2.1; rwa [HDX.out.1, Int.neg_neg, Int.toNat_natCast] at this)
                  rw [HDX.out.1, Int.neg_neg, Int.toNat_natCast]
                  exact h9
                go_wp2_with (go_at_call 69; refine HPW.out.mono ?_; clear HPW; rintro e9 w7 ⟨v7, rfl, hq7, hb7⟩; obtain ⟨a7, c7, rfl⟩ := hq7.form)
                go_meet
                exact ⟨a7, _, c7, a2, l2, c2, rfl, rfl, hq7, by rw [HDX.out.2, show (-(Y : Int)).toNat = 0 by omega, Nat.pow_zero, Nat.mul_one]; exact HI.out.2.1.below hb7, HI.out.2.2.trans (hb7.mono HI.out.2.2.size)⟩
            case rest =>
              clear HI HLAX HDX
              obtain ⟨a1, l1, c1, a2, l2, c2, rfl, rfl, HI⟩ := hcut
              obtain ⟨D, hD⟩ : ∃ D, D = dgs 18 A B := ⟨_, rfl⟩
              have HDD : Hid (D = dgs 18 A B) := hD
              clear hD
              have HQB : Hid (∀ W : World, Below wc.heap.size wc W → QAt W (.slice a2 l2 c2) B) := fun W hW => HI.out.2.1.below hW
              have HBC : Hid (Below w.heap.size w wc) := HI.out.2.2
              go_wp2
              go_loopw [8, 10, 11] (fun av ov iv wr => ∃ (i R : Nat) (es : List Nat) (ao : Option Addr) (co : Nat) (a1 : Option Addr) (l1 c1 : Nat), iv = .int .i64 i ∧ i ≤ 18 ∧ av = .slice a1 l1 c1 ∧ ov = .slice ao i co ∧ Hid (es.length = i ∧ wr.ownsRow wc.heap.size 3 1 (.slice ao i co) i (i64s es) ∧ QAt wr (.slice a1 l1 c1) R ∧ R < B ∧ es ++ dgs (18 - i) R B = D ∧ Below wc.heap.size wc wr)) (fun _ _ iv _ => 18 - (intOf iv).toNat)
              case atStart => exact ⟨0, A, [], none, 0, a1, l1, c1, rfl, by omega, rfl, rfl, rfl, World.ownsRow_nil _ _ _ _, HI.out.1, HLT.out, HDD.out.symm, Below.refl _ _⟩
              case round =>
                clear HI HLT
                obtain ⟨i, R, es, ao, co, a1, l1, c1, rfl, hi, rfl, rfl, HI⟩ := hrel
                by_cases hlt : i < 18
                · have hli : (i : Int) < 18 := by omega
                  have HTM : Hid (Calls Tryd.prog 27 #[.slice a1 l1 c1, .int .i64 10, .int .i64 0] wr fun e w' => ∃ a l c, e = .returned (.slice a l c) ∧ w'.ownsRow wr.heap.size 3 1 (.slice a l c) l (i64s (digQ (R * 10))) ∧ l = (digQ (R * 10)).length ∧ Below wr.heap.size wr w') := (refTimes_nat _ R 10 0 wr HI.out.2.2.1 (by decide) (by decide) (by decide) (by have := HLNX.out R (by have := HI.out.2.2.2.1; omega); omega)).mono (by
                    rintro e w' ⟨v, rfl, -, ⟨a, c, rfl⟩, hq, hb⟩
                    exact ⟨a, _, c, rfl, hq, rfl, hb⟩)
                  have HBR : Hid (Below wc.heap.size wc wr) := HI.out.2.2.2.2.2
                  have HRW : Hid (wr.ownsRow wc.heap.size 3 1 (.slice ao i co) i (i64s es)) := HI.out.2.1
                  have HEE : Hid (es.length = i ∧ R < B ∧ es ++ dgs (18 - i) R B = D) := ⟨HI.out.1, HI.out.2.2.2.1, HI.out.2.2.2.2.1⟩
                  clear HI
                  go_wp2_with (go_at_call 27; refine HTM.out.mono ?_; clear HTM; rintro e9 w7 ⟨a7, l7, c7, rfl, hq7, hl7, hb7⟩; have HQ7 : Hid (w7.ownsRow wr.heap.size 3 1 (.slice a7 l7 c7) l7 (i64s (digQ (R * 10))) ∧ l7 = (digQ (R * 10)).length) := ⟨hq7, hl7⟩; clear hl7; have HB7 : Hid (Below wr.heap.size wr w7) := hb7; clear hq7 hb7)
                  go_loopw [8, 12] (fun av dv wu => ∃ (d r : Nat) (a1 : Option Addr) (l1 c1 : Nat), av = .slice a1 l1 c1 ∧ dv = .int .i64 d ∧ d ≤ 10 ∧ Hid ((wu.ownsRow wr.heap.size 3 1 (.slice a1 l1 c1) l1 (i64s (digQ r)) ∧ l1 = (digQ r).length) ∧ d * B + r = R * 10 ∧ Below wr.heap.size wr wu)) (fun _ dv _ => 10 - (intOf dv).toNat)
                  case atStart => exact ⟨0, R * 10, a7, l7, c7, rfl, rfl, by omega, HQ7.out, by rw [Nat.zero_mul, Nat.zero_add], HB7.out⟩
                  case round =>
                    clear HQ7 HB7
                    obtain ⟨d, r, a7, l7, c7, rfl, rfl, hd, HI⟩ := hrel
                    have HQ1 : Hid (QAt wr (.slice a7 l7 c7) r) := row_q HI.out.1.1 HI.out.1.2
                    have HBU := HBR.out.trans (HI.out.2.2.mono HBR.out.size)
                    have HBV : Hid (Below wc.heap.size wc wr) := HBU
                    clear HBU
                    have hrb : r ≤ R * 10 := by have := HI.out.2.1; omega
                    have hlr := HLNX.out r (by have := HEE.out.2.1; omega)
                    have hlb := HLNX.out B (by omega)
                    have HCP : Hid (Calls Tryd.prog 70 #[.slice a7 l7 c7, .slice a2 l2 c2] wr fun e w' => e = .returned (.int .i64 (cmpN r B)) ∧ Below wr.heap.size wr w') := refCmp_any _ _ r B wr HQ1.out (HQB.out _ HBV.out) (by omega) (by omega)
                    by_cases hge : B ≤ r
                    · have hC : 0 ≤ cmpN r B := by
                        unfold cmpN
                        rw [if_neg (by omega)]
                        split <;> omega
                      have hd9 := dgs_less HI.out.2.1 HEE.out.2.1 hge
                      have HMN : Hid (∀ W : World, Below wr.heap.size wr W → Calls Tryd.prog 71 #[.slice a7 l7 c7, .slice a2 l2 c2] W fun e w' => ∃ a l c, e = .returned (.slice a l c) ∧ (w'.ownsRow W.heap.size 3 1 (.slice a l c) l (i64s (digQ (r - B))) ∧ l = (digQ (r - B)).length) ∧ Below W.heap.size W w') := fun W hW => (refMinus_any _ _ r B W (HQ1.out.below hW) (HQB.out _ (HBV.out.trans (hW.mono HBV.out.size))) hge hlr).mono (by
                        rintro e w' ⟨a, c, rfl, hq, hb⟩
                        exact ⟨a, _, c, rfl, ⟨hq, rfl⟩, hb⟩)
                      have HEQ : Hid ((d + 1) * B + (r - B) = R * 10) := by
                        show _ = _
                        rw [← HI.out.2.1, Nat.add_mul, Nat.one_mul]
                        omega
                      have HBI := HI.out.2.2
                      have HBJ : Hid (Below _ _ wr) := HBI
                      clear HBI HI hrb hlr hlb
                      generalize cmpN r B = C9 at *
                      go_wp2_with (first
                        | (go_at_call 70; refine HCP.out.mono ?_; clear HCP; rintro e9 w8 ⟨rfl, hb8⟩; have HB8 : Hid (Below wr.heap.size wr w8) := hb8; clear hb8)
                        | (go_at_call 71; refine (HMN.out _ HB8.out).mono ?_; clear HMN; rintro e9 w9 ⟨a9, l9, c9, rfl, hq9, hb9⟩; have HQ9 := (⟨row_mono hq9.1 (Nat.le_trans HBJ.out.size HB8.out.size), hq9.2⟩ : _ ∧ _); have HQZ : Hid _ := HQ9; clear HQ9; have HB9 := HBJ.out.trans ((HB8.out.trans (hb9.mono HB8.out.size)).mono HBJ.out.size); have HBK : Hid (Below _ _ w9) := HB9; clear HB9 hq9 hb9))
                      go_roundw
                      case rel => exact ⟨d + 1, r - B, a9, l9, c9, rfl, by go_num, by omega, HQZ.out, HEQ.out, HBK.out⟩
                      case measure => simp [intOf]; omega
                    · have hC : ¬ 0 ≤ cmpN r B := by
                        unfold cmpN
                        rw [if_pos (by omega)]
                        omega
                      have hst := dgs_step HI.out.2.1 (by omega)
                      have HNX : Hid ((es ++ [d]).length = i + 1 ∧ r < B ∧ (es ++ [d]) ++ dgs (18 - (i + 1)) r B = D) := by
                        refine ⟨by simp [HEE.out.1], by omega, ?_⟩
                        have h9 := HEE.out.2.2
                        rw [show 18 - i = (18 - (i + 1)) + 1 by omega, dgs, hst.1, hst.2] at h9
                        rw [← h9]
                        simp
                      have HBI := HI.out.2.2
                      have HBJ : Hid (Below _ _ wr) := HBI
                      have HQR := (⟨HI.out.1.1, HI.out.1.2⟩ : _ ∧ _)
                      have HQS : Hid _ := HQR
                      clear HQR
                      have HRW2 : Hid (wr.ownsRow wc.heap.size 3 1 (.slice ao i co) i (i64s es)) := row_below HRW.out HBI
                      clear HBI HI hrb hlr hlb hst hge
                      generalize cmpN r B = C9 at *
                      go_wp2_with (first
                        | (go_at_call 70; refine HCP.out.mono ?_; clear HCP; rintro e9 w8 ⟨rfl, hb8⟩; have HB8 : Hid (Below wr.heap.size wr w8) := hb8; have HRW8 : Hid (w8.ownsRow wc.heap.size 3 1 (.slice ao i co) i (i64s es)) := row_below HRW2.out hb8; have HBW8 : Hid (Below wc.heap.size wc w8) := HBV.out.trans (hb8.mono HBV.out.size); have hsz8 := HBW8.out.size; have HQ8 := row_below HQS.out.1 hb8; have HQT : Hid _ := HQ8; clear HQ8 hb8)
                        | (at_builtin; refine wpList_append_int _ rfl _ _ rfl wc.heap.size ao i co es rfl (World.ownsRow.alloc HRW8.out _) w8.heap.size (d : Int) d rfl rfl (heap_alloc_new w8 _) (by omega) (by simp; omega) ?_; intro a9 c9 w9 hr9 hg9))
                      have hfin : QAt w9 (.slice a7 l7 c7) r := row_q (World.ownsRow.kept (World.ownsRow.alloc HQT.out _) hg9 (row_apart HQT.out HRW.out)) HQS.out.2
                      have HBF : Below wc.heap.size wc w9 := (HBW8.out.alloc hsz8 _).grown hg9 (by simp; omega) (fun j hj => (HRW8.out.lt j hj).1)
                      exact ⟨⟨i + 1, r, es ++ [d], a9, c9, a7, l7, c7, by go_num, by omega, rfl, rfl, HNX.out.1, hr9, hfin, HNX.out.2.1, HNX.out.2.2, HBF⟩, by simp [intOf]; omega⟩
                · have hli : ¬ (i : Int) < 18 := by omega
                  obtain rfl : i = 18 := by omega
                  have HF : Hid (es = D) := by
                    have h9 := HI.out.2.2.2.2.1
                    rw [Nat.sub_self, dgs, List.append_nil] at h9
                    exact h9
                  have HRW : Hid (wr.ownsRow wc.heap.size 3 1 (.slice ao 18 co) 18 (i64s es)) := HI.out.2.1
                  have HBR : Hid (Below wc.heap.size wc wr) := HI.out.2.2.2.2.2
                  clear HI
                  go_wp2
                  go_ret2
                  exact ⟨x, ao, co, rfl, HLE.out, ⟨by omega, by omega⟩, by rw [HAX.out.1, HAX.out.2, ← HDD.out, ← HF.out]; exact row_mono HRW.out HBC.out.size, HBC.out.trans (HBR.out.mono HBC.out.size)⟩
end Go.Proofs.YtinfnkhghmcelaaDoor
