/- NumMonotone. -/
import Derived.Test.YtfnciidhifencaaDoorMEb
import Derived.Test.YtfnciidhifencaaDoorMEe
namespace Go.Proofs.YtfnciidhifencaaDoor
open Go.RowKit Go.Maps

theorem valT_zero (X : List UInt8) : valT (48 :: X) = valT X := by rw [valT_cons]; simp
theorem ba_three (a b : List UInt8) : ((⟨a.toArray⟩ : ByteArray) ++ ⟨#[101]⟩ ++ ⟨b.toArray⟩) = ⟨(a ++ 101 :: b).toArray⟩ := by
  apply ByteArray.ext
  simp

theorem lex_self : ∀ X : List UInt8, Op.bytesLess X X = false
  | [] => rfl
  | a :: t => by
    unfold Op.bytesLess
    simp [lex_self t]
theorem lex_cases : ∀ (X Y : List UInt8), (∀ b ∈ X, isD b) → (∀ b ∈ Y, isD b) → X.length = Y.length → (Op.bytesLess X Y = true ∧ valT X < valT Y) ∨ X = Y ∨ (Op.bytesLess X Y = false ∧ valT Y < valT X ∧ ¬ X = Y)
  | [], [], _, _, _ => Or.inr (Or.inl rfl)
  | [], _ :: _, _, _, h => by simp at h
  | _ :: _, [], _, _, h => by simp at h
  | a :: s, b :: t, h1, h2, h => by
    have hl : s.length = t.length := by simpa using h
    have ha := h1 a (by simp)
    have hb := h2 b (by simp)
    unfold isD at ha hb
    have vs := valT_lt s (fun x hx => h1 x (by simp [hx]))
    have vt := valT_lt t (fun x hx => h2 x (by simp [hx]))
    rw [hl] at vs
    rw [valT_cons, valT_cons, hl]
    rcases Nat.lt_trichotomy a.toNat b.toNat with h3 | h3 | h3
    · refine Or.inl ⟨?_, ?_⟩
      · unfold Op.bytesLess
        simp [UInt8.lt_iff_toNat_lt, h3]
      · have h4 : (a.toNat - 48 + 1) * 10 ^ t.length ≤ (b.toNat - 48) * 10 ^ t.length := Nat.mul_le_mul_right _ (by omega)
        rw [Nat.add_mul, Nat.one_mul] at h4
        omega
    · obtain rfl : a = b := UInt8.toNat_inj.1 h3
      rcases lex_cases s t (fun x hx => h1 x (by simp [hx])) (fun x hx => h2 x (by simp [hx])) hl with ⟨h4, h5⟩ | h4 | ⟨h4, h5, h6⟩
      · refine Or.inl ⟨?_, by omega⟩
        unfold Op.bytesLess
        simp [h4]
      · exact Or.inr (Or.inl (by rw [h4]))
      · refine Or.inr (Or.inr ⟨?_, by omega, fun e => h6 (List.cons.inj e).2⟩)
        unfold Op.bytesLess
        simp [h4]
    · refine Or.inr (Or.inr ⟨?_, ?_, fun e => by rw [(List.cons.inj e).1] at h3; omega⟩)
      · have q1 : ¬ a < b := by rw [UInt8.lt_iff_toNat_lt]; omega
        have q2 : (a == b) = false := by rw [beq_eq_false_iff_ne]; intro e; rw [e] at h3; omega
        unfold Op.bytesLess
        simp only [q1, q2, decide_false, Bool.false_and, Bool.or_false]
      · have h4 : (b.toNat - 48 + 1) * 10 ^ t.length ≤ (a.toNat - 48) * 10 ^ t.length := Nat.mul_le_mul_right _ (by omega)
        rw [Nat.add_mul, Nat.one_mul] at h4
        omega
theorem order_small {x y : Nat} (hx : x ≤ 9218868437227405312) (hy : y ≤ 9218868437227405312) : (x < y → FloatKind.f64.format.order x y = some .lt) ∧ (x = y → FloatKind.f64.format.order x y = some .eq) ∧ (y < x → FloatKind.f64.format.order x y = some .gt) := by
  have hk : ∀ z, z ≤ 9218868437227405312 → keyF z = z := fun z hz => by
    unfold keyF
    rw [if_neg (by omega), Nat.mod_eq_of_lt (by omega)]
  have h := order_of (x := x) (y := y) (by rw [Nat.mod_eq_of_lt (by omega)]; exact hx) (by rw [Nat.mod_eq_of_lt (by omega)]; exact hy)
  rw [hk x hx, hk y hy] at h
  exact ⟨fun h1 => h.1 (by omega), fun h1 => h.2.1 (by omega), fun h1 => h.2.2 (by omega)⟩

set_option maxRecDepth 100000 in
set_option maxHeartbeats 4000000 in
theorem mono_core (v u : Value) (xs ys : List UInt8) (n : Int) (w : World) (ha : BAt w v xs) (hb : BAt w u ys) (hn1 : -9223372036854775808 ≤ n) (hn2 : n ≤ 9223372036854775807) (hU : Units w) (hP : Pow w) :
    Calls Tryd.prog 5 #[v, u, .int .i64 n] w fun e w' => e = .returned (.bool true) ∧ Below w.heap.size w w' := by
  have hd1 := digitsOf_any v xs w ha
  have HD2 : Hid (∀ W, Below w.heap.size w W → Calls Tryd.prog 18 #[u] W fun e w' => e = .returned (.string ⟨(digB ys).toArray⟩) ∧ Below W.heap.size W w') := fun W h => digitsOf_any u ys W (hb.below h)
  obtain ⟨a1, c1, rfl, -⟩ := id ha
  obtain ⟨a2, c2, rfl, -⟩ := id hb
  have HX : Hid ((∀ b ∈ digB xs, isD b) ∧ (digB xs).length ≤ 41 ∧ 1 ≤ (digB xs).length) := ⟨digB_isD xs, by unfold digB; simp; omega, by unfold digB; simp⟩
  have HY : Hid ((∀ b ∈ digB ys, isD b) ∧ (digB ys).length ≤ 41 ∧ 1 ≤ (digB ys).length) := ⟨digB_isD ys, by unfold digB; simp; omega, by unfold digB; simp⟩
  have HU : Hid (Units w) := hU
  have HPW : Hid (Pow w) := hP
  generalize digB xs = x0 at *
  generalize digB ys = y0 at *
  clear ha hb hU hP
  go_enter Tryd.func5, Tryd.ntmps5
  go_wp2_with (first
    | (go_at_call 18; refine hd1.mono ?_; clear hd1; rintro e w1 ⟨rfl, hb1⟩; have HB1 : Hid (Below w.heap.size w w1) := hb1; clear hb1)
    | (go_at_call 18; refine (HD2.out _ HB1.out).mono ?_; clear HD2; rintro e w2 ⟨rfl, hb2⟩; have HB2 : Hid (Below w.heap.size w w2) := HB1.out.trans (hb2.mono HB1.out.size); clear hb2))
  obtain ⟨hx1, hx2, hx3⟩ := HX.out
  obtain ⟨hy1, hy2, hy3⟩ := HY.out
  go_loop [7] (fun s => ∃ X : List UInt8, s = .string ⟨X.toArray⟩ ∧ 1 ≤ X.length ∧ X.length ≤ 41 ∧ Hid (∀ b ∈ X, isD b)) (fun s => match s with | .string b => 41 - b.size | _ => 0)
  case atStart => exact ⟨x0, rfl, hx3, hx2, hx1⟩
  case round =>
    obtain ⟨X, rfl, hX1, hX2, HXD⟩ := hrel
    have hsX : (⟨X.toArray⟩ : ByteArray).size = X.length := by simp [ByteArray.size]
    have hsY : (⟨y0.toArray⟩ : ByteArray).size = y0.length := by simp [ByteArray.size]
    by_cases hlt : X.length < y0.length
    · have HA : Hid ((⟨#[48]⟩ : ByteArray) ++ ⟨X.toArray⟩ = ⟨(48 :: X).toArray⟩) := ba_app [48] X
      go_wp2
      go_round
      case rel => exact ⟨48 :: X, by rw [HA.out], by simp, by simp; omega, fun b hb => by
        rcases List.mem_cons.1 hb with rfl | h
        · unfold isD; decide
        · exact HXD.out b h⟩
      case measure =>
        show 41 - ((⟨#[48]⟩ : ByteArray) ++ ⟨X.toArray⟩).size < 41 - (⟨X.toArray⟩ : ByteArray).size
        rw [HA.out]
        simp [ByteArray.size]
        omega
    · clear hsX hsY
      go_wp2
      go_loop [8] (fun s => ∃ Y : List UInt8, s = .string ⟨Y.toArray⟩ ∧ 1 ≤ Y.length ∧ Y.length ≤ X.length ∧ Hid (∀ b ∈ Y, isD b)) (fun s => match s with | .string b => 41 - b.size | _ => 0)
      case atStart => exact ⟨y0, rfl, hy3, by omega, hy1⟩
      case round =>
        obtain ⟨Y, rfl, hY1, hY2, HYD⟩ := hrel
        have hsX : (⟨X.toArray⟩ : ByteArray).size = X.length := by simp [ByteArray.size]
        have hsY : (⟨Y.toArray⟩ : ByteArray).size = Y.length := by simp [ByteArray.size]
        by_cases hlt2 : Y.length < X.length
        · have HA : Hid ((⟨#[48]⟩ : ByteArray) ++ ⟨Y.toArray⟩ = ⟨(48 :: Y).toArray⟩) := ba_app [48] Y
          go_wp2
          go_round
          case rel => exact ⟨48 :: Y, by rw [HA.out], by simp, by simp; omega, fun b hb => by
            rcases List.mem_cons.1 hb with rfl | h
            · unfold isD; decide
            · exact HYD.out b h⟩
          case measure =>
            show 41 - ((⟨#[48]⟩ : ByteArray) ++ ⟨Y.toArray⟩).size < 41 - (⟨Y.toArray⟩ : ByteArray).size
            rw [HA.out]
            simp [ByteArray.size]
            omega
        · have HLE : Hid (Y.length = X.length) := by show _ = _; omega
          obtain ⟨k, hk⟩ : ∃ k, k = n % 700 - 360 := ⟨_, rfl⟩
          have hkb : -360 ≤ k ∧ k ≤ 339 := by omega
          obtain ⟨R1, hR1, hN1⟩ := parse_whole (k := k) HXD.out (fun e => by rw [e] at hX1; simp at hX1) (by omega) (by omega) (by omega)
          obtain ⟨R2, hR2, hN2⟩ := parse_whole (k := k) HYD.out (fun e => by rw [e] at hY1; simp at hY1) (by omega) (by omega) (by omega)
          have hwi := keepWithin_any n 700 w2 (by decide) (by decide) hn1 hn2
          have hit := intText_any k w2 (by omega) (by omega) (HPW.out.below HB2.out)
          have hEl : (Lib.itoa k).length ≤ 21 := Lib.itoa_length_le k (by omega) (by omega)
          obtain ⟨E, hE⟩ : ∃ E, E = Lib.itoa k := ⟨_, rfl⟩
          rw [← hE] at hR1 hR2 hit hEl
          have HPX : Hid (∀ W : World, Calls Tryd.prog 15 #[.string (⟨X.toArray⟩ ++ ⟨#[101]⟩ ++ ⟨E.toArray⟩)] W fun e w' => e = .returned (.tuple #[.float .f64 R1, .int .i64 0]) ∧ Below W.heap.size W w') := fun W => by
            rw [ba_three]
            have h9 := parse_any ⟨(X ++ 101 :: E).toArray⟩ W (by unfold maxLen; simp [ByteArray.size]; omega)
            rw [hR1] at h9
            exact h9
          have HPY : Hid (∀ W : World, Calls Tryd.prog 15 #[.string (⟨Y.toArray⟩ ++ ⟨#[101]⟩ ++ ⟨E.toArray⟩)] W fun e w' => e = .returned (.tuple #[.float .f64 R2, .int .i64 0]) ∧ Below W.heap.size W w') := fun W => by
            rw [ba_three]
            have h9 := parse_any ⟨(Y ++ 101 :: E).toArray⟩ W (by unfold maxLen; simp [ByteArray.size]; omega)
            rw [hR2] at h9
            exact h9
          have HN : Hid (NearF (valT X * 10 ^ k.toNat) (10 ^ (-k).toNat) R1 ∧ NearF (valT Y * 10 ^ k.toNat) (10 ^ (-k).toNat) R2) := ⟨hN1, hN2⟩
          have hk2 : n % 700 - 360 = k := hk.symm
          clear hR1 hR2 hN1 hN2 hE hsX hsY hk
          have HKB : Hid (∀ W : World, Calls Tryd.prog 8 #[.float .f64 R1, .float .f64 R1] W fun e w' => e = .returned (.bool true) ∧ w' = W) := fun W => by
            have h := keepBits_any R1 R1 W
            rw [decide_eq_true rfl] at h
            exact h
          have HWK : Hid (∀ W : World, Units W → Calls Tryd.prog 12 #[] W fun e w' => e = .returned (.bool true) ∧ Below W.heap.size W w') := fun W h => wakes_any W h
          have hpos : 0 < 10 ^ (-k).toNat := Nat.pow_pos (by decide)
          rcases lex_cases X Y HXD.out HYD.out HLE.out.symm with ⟨hlx, hvx⟩ | hxy | ⟨hlx, hvx, hne⟩
          · have hle := HN.out.1.mono HN.out.2 hpos hpos (Nat.mul_le_mul_right _ (Nat.mul_le_mul_right _ (Nat.le_of_lt hvx)))
            have ho := order_small HN.out.1.top HN.out.2.top
            clear hpos hvx
            rcases Nat.lt_or_ge R1 R2 with hr | hr
            · have hord := ho.1 hr
              clear ho hle hr
              go_wp2_with (first
                | (go_at_call 19; refine hwi.mono ?_; clear hwi; rintro e w3 ⟨rfl, hw3⟩; have hw3 := hw3.symm; subst hw3)
                | (go_at_call 16; refine hit.mono ?_; clear hit; rintro e w3 ⟨rfl, hb3⟩; have HB3 : Hid (Below w.heap.size w w3) := HB2.out.trans (hb3.mono HB2.out.size); clear hb3)
                | (go_at_call 15; refine (HPX.out _).mono ?_; clear HPX; rintro e w4 ⟨rfl, hb4⟩; have HB4 : Hid (Below w.heap.size w w4) := HB3.out.trans (hb4.mono HB3.out.size); clear hb4)
                | (go_at_call 15; refine (HPY.out _).mono ?_; clear HPY; rintro e w5 ⟨rfl, hb5⟩; have HB5 : Hid (Below w.heap.size w w5) := HB4.out.trans (hb5.mono HB4.out.size); clear hb5)
                | (go_at_call 8; refine (HKB.out _).mono ?_; clear HKB; rintro e w6 ⟨rfl, hw6⟩; have hw6 := hw6.symm; subst hw6)
                | (go_at_call 12; refine (HWK.out _ (HU.out.below HB5.out)).mono ?_; clear HWK; rintro e w7 ⟨rfl, hb7⟩; have HB7 : Hid (Below w.heap.size w w7) := HB5.out.trans (hb7.mono HB5.out.size); clear hb7))
              go_ret
              exact ⟨rfl, HB7.out⟩
            · have hord := ho.2.1 (Nat.le_antisymm hle hr)
              clear ho hle hr
              go_wp2_with (first
                | (go_at_call 19; refine hwi.mono ?_; clear hwi; rintro e w3 ⟨rfl, hw3⟩; have hw3 := hw3.symm; subst hw3)
                | (go_at_call 16; refine hit.mono ?_; clear hit; rintro e w3 ⟨rfl, hb3⟩; have HB3 : Hid (Below w.heap.size w w3) := HB2.out.trans (hb3.mono HB2.out.size); clear hb3)
                | (go_at_call 15; refine (HPX.out _).mono ?_; clear HPX; rintro e w4 ⟨rfl, hb4⟩; have HB4 : Hid (Below w.heap.size w w4) := HB3.out.trans (hb4.mono HB3.out.size); clear hb4)
                | (go_at_call 15; refine (HPY.out _).mono ?_; clear HPY; rintro e w5 ⟨rfl, hb5⟩; have HB5 : Hid (Below w.heap.size w w5) := HB4.out.trans (hb5.mono HB4.out.size); clear hb5)
                | (go_at_call 8; refine (HKB.out _).mono ?_; clear HKB; rintro e w6 ⟨rfl, hw6⟩; have hw6 := hw6.symm; subst hw6)
                | (go_at_call 12; refine (HWK.out _ (HU.out.below HB5.out)).mono ?_; clear HWK; rintro e w7 ⟨rfl, hb7⟩; have HB7 : Hid (Below w.heap.size w w7) := HB5.out.trans (hb7.mono HB5.out.size); clear hb7))
              go_ret
              exact ⟨rfl, HB7.out⟩
          · subst hxy
            obtain rfl : R2 = R1 := HN.out.2.one HN.out.1 hpos hpos rfl
            have hlx := lex_self X
            clear hpos
            go_wp2_with (first
              | (go_at_call 19; refine hwi.mono ?_; clear hwi; rintro e w3 ⟨rfl, hw3⟩; have hw3 := hw3.symm; subst hw3)
              | (go_at_call 16; refine hit.mono ?_; clear hit; rintro e w3 ⟨rfl, hb3⟩; have HB3 : Hid (Below w.heap.size w w3) := HB2.out.trans (hb3.mono HB2.out.size); clear hb3)
              | (go_at_call 15; refine (HPX.out _).mono ?_; clear HPX; rintro e w4 ⟨rfl, hb4⟩; have HB4 : Hid (Below w.heap.size w w4) := HB3.out.trans (hb4.mono HB3.out.size); clear hb4)
              | (go_at_call 15; refine (HPY.out _).mono ?_; clear HPY; rintro e w5 ⟨rfl, hb5⟩; have HB5 : Hid (Below w.heap.size w w5) := HB4.out.trans (hb5.mono HB4.out.size); clear hb5)
              | (go_at_call 8; refine (HKB.out _).mono ?_; clear HKB; rintro e w6 ⟨rfl, hw6⟩; have hw6 := hw6.symm; subst hw6)
              | (go_at_call 12; refine (HWK.out _ (HU.out.below HB5.out)).mono ?_; clear HWK; rintro e w7 ⟨rfl, hb7⟩; have HB7 : Hid (Below w.heap.size w w7) := HB5.out.trans (hb7.mono HB5.out.size); clear hb7))
            go_ret
            exact ⟨rfl, HB7.out⟩
          · have hle := HN.out.2.mono HN.out.1 hpos hpos (Nat.mul_le_mul_right _ (Nat.mul_le_mul_right _ (Nat.le_of_lt hvx)))
            have ho := order_small HN.out.1.top HN.out.2.top
            clear hpos hvx
            rcases Nat.lt_or_ge R2 R1 with hr | hr
            · have hord := ho.2.2 hr
              clear ho hle hr
              go_wp2_with (first
                | (go_at_call 19; refine hwi.mono ?_; clear hwi; rintro e w3 ⟨rfl, hw3⟩; have hw3 := hw3.symm; subst hw3)
                | (go_at_call 16; refine hit.mono ?_; clear hit; rintro e w3 ⟨rfl, hb3⟩; have HB3 : Hid (Below w.heap.size w w3) := HB2.out.trans (hb3.mono HB2.out.size); clear hb3)
                | (go_at_call 15; refine (HPX.out _).mono ?_; clear HPX; rintro e w4 ⟨rfl, hb4⟩; have HB4 : Hid (Below w.heap.size w w4) := HB3.out.trans (hb4.mono HB3.out.size); clear hb4)
                | (go_at_call 15; refine (HPY.out _).mono ?_; clear HPY; rintro e w5 ⟨rfl, hb5⟩; have HB5 : Hid (Below w.heap.size w w5) := HB4.out.trans (hb5.mono HB4.out.size); clear hb5)
                | (go_at_call 8; refine (HKB.out _).mono ?_; clear HKB; rintro e w6 ⟨rfl, hw6⟩; have hw6 := hw6.symm; subst hw6)
                | (go_at_call 12; refine (HWK.out _ (HU.out.below HB5.out)).mono ?_; clear HWK; rintro e w7 ⟨rfl, hb7⟩; have HB7 : Hid (Below w.heap.size w w7) := HB5.out.trans (hb7.mono HB5.out.size); clear hb7))
              go_ret
              exact ⟨rfl, HB7.out⟩
            · have hord := ho.2.1 (Nat.le_antisymm hr hle)
              clear ho hle hr
              go_wp2_with (first
                | (go_at_call 19; refine hwi.mono ?_; clear hwi; rintro e w3 ⟨rfl, hw3⟩; have hw3 := hw3.symm; subst hw3)
                | (go_at_call 16; refine hit.mono ?_; clear hit; rintro e w3 ⟨rfl, hb3⟩; have HB3 : Hid (Below w.heap.size w w3) := HB2.out.trans (hb3.mono HB2.out.size); clear hb3)
                | (go_at_call 15; refine (HPX.out _).mono ?_; clear HPX; rintro e w4 ⟨rfl, hb4⟩; have HB4 : Hid (Below w.heap.size w w4) := HB3.out.trans (hb4.mono HB3.out.size); clear hb4)
                | (go_at_call 15; refine (HPY.out _).mono ?_; clear HPY; rintro e w5 ⟨rfl, hb5⟩; have HB5 : Hid (Below w.heap.size w w5) := HB4.out.trans (hb5.mono HB4.out.size); clear hb5)
                | (go_at_call 8; refine (HKB.out _).mono ?_; clear HKB; rintro e w6 ⟨rfl, hw6⟩; have hw6 := hw6.symm; subst hw6)
                | (go_at_call 12; refine (HWK.out _ (HU.out.below HB5.out)).mono ?_; clear HWK; rintro e w7 ⟨rfl, hb7⟩; have HB7 : Hid (Below w.heap.size w w7) := HB5.out.trans (hb7.mono HB5.out.size); clear hb7))
              go_ret
              exact ⟨rfl, HB7.out⟩
theorem mono_w (v u : Value) (xs ys : List UInt8) (n : Int) (W : World) (ha : BAt W v xs) (hb : BAt W u ys) (hn : -9223372036854775808 ≤ n ∧ n ≤ 9223372036854775807) (h : Units W ∧ Pow W) :
    Calls Tryd.prog 5 #[v, u, .int .i64 n] W fun e w' => e = .returned (.bool true) ∧ Below W.heap.size W w' := mono_core v u xs ys n W ha hb hn.1 hn.2 h.1 h.2
end Go.Proofs.YtfnciidhifencaaDoor
