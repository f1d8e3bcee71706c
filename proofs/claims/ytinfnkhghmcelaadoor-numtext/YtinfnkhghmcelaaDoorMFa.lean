/- Texts that belong together. -/
import Derived.Test.YtinfnkhghmcelaaDoorMDw
import Derived.Test.YtinfnkhghmcelaaDoorSr
import Derived.Lib.Strings
import Derived.Test.YtinfnkhghmcelaaDoorMJd
/- Whole numbers written, and zeros. -/
namespace Go.Proofs.YtinfnkhghmcelaaDoor
open Go.RowKit Go.Maps Go.Sort

set_option maxRecDepth 100000 in
set_option maxHeartbeats 1000000 in
theorem fu_great (u : Nat) (hu : 100 ≤ u) (hu64 : u < 18446744073709551616) (w : World) (hp : Pow w) : Calls Tryd.prog 77 #[.int .u64 u, .int .i64 10] w fun e w' => e = .returned (.string ⟨(Lib.decDigits u).toArray⟩) ∧ Below w.heap.size w w' := by
  have hu1 : 1 ≤ u := by omega
  have hnd20 : Lib.nDigits u ≤ 20 := by have := Lib.numDigits_eq u hu1 hu64; split at this <;> omega
  have hal : Tryd.prog.arrayLen 121 = 24 := by kernel_rfl
  have hsl : ∀ W, (Instr.sliceAt 121 (.pointer (some ⟨w.heap.size, 0, none⟩)) none (some (.int .i64 (Lib.nDigits u : Int))) none).run Tryd.prog W = .ok (.slice (some ⟨w.heap.size, 0, none⟩) (Lib.nDigits u) 24) W := fun W => by
    rw [run_sliceAt_array_h W 121 ⟨w.heap.size, 0, none⟩ Tryd.underlying121 .i64 (Lib.nDigits u : Int) (by omega) (by rw [hal]; omega)]
    go_simp
  have hH0 := Lib.holds_zero0 w 121 (Lib.nDigits u) (by omega)
  have hfmt0 := Any.internal_strconv_formatBase10 Tryd.lays285 w.heap.size 0 24 u (Array.replicate (Lib.nDigits u) 0) (w.alloc (.cells Lib.zeros24 121)) hH0 (by rw [Array.size_replicate]; exact Lib.lt_pow_nDigits u) hu64 (by rw [Array.size_replicate]; omega)
  rw [Array.size_replicate] at hfmt0
  have hnd0 := Any.internal_strconv_numDigits Tryd.lays284 u hu1 hu64 (w.alloc (.cells Lib.zeros24 121)) (Lib.tabIs_alloc hp _)
  have hnd : Calls Tryd.prog 87 #[.int .u64 u] (w.alloc (.cells Lib.zeros24 121)) fun e w' => e = .returned (.int .i64 (Lib.nDigits u)) ∧ w' = w.alloc (.cells Lib.zeros24 121) := hnd0
  have hfm : Calls Tryd.prog 88 #[.slice (some ⟨w.heap.size, 0, none⟩) (Lib.nDigits u) 24, .int .u64 u] (w.alloc (.cells Lib.zeros24 121)) fun e w' => e = .returned (.tuple #[]) ∧ (convert 44 9 (.slice (some ⟨w.heap.size, 0, none⟩) (Lib.nDigits u) 24)).run Tryd.prog w' = .ok (.string ⟨(Lib.decDigits u).toArray⟩) w' ∧ Below w.heap.size w w' := Calls.mono hfmt0 (by
    rintro e w' ⟨rfl, k, v', dk, rfl, hF⟩
    refine ⟨rfl, ?_, ?_⟩
    · have h := run_convert_bytes_back (P := Tryd.prog) ((putRow (fun (b : UInt8) => Value.int .u8 (b.toNat : Int)) (w.alloc (.cells Lib.zeros24 121)) w.heap.size 0 dk).drewN k) 44 9 5 ⟨w.heap.size, 0, none⟩ 24 (Lib.decDigits u) Tryd.underlying44 Tryd.underlying5 Tryd.underlying9 (fun j hj => by
        rw [Lib.row_is_numeral hF j hj, Lib.add_plain, World.cell?_drewN]
        exact cell?_putRow (fun (b : UInt8) => Value.int .u8 (b.toNat : Int)) _ w.heap.size 0 _ dk hH0 (by rw [hF.size, Array.size_replicate]) j (by rw [hF.size]; rw [Lib.decDigits_length] at hj; exact hj))
      rw [Lib.decDigits_length] at h
      exact h
    · obtain ⟨os, eo⟩ := Lib.fin_at w (.cells Lib.zeros24 121) dk k 0
      rw [eo]
      exact Lib.below_grow _ _ (Nat.le_refl _) k os)
  clear hal hH0 hfmt0 hnd0 hp
  generalize Lib.nDigits u = nd at *
  generalize Lib.decDigits u = D at *
  unfold Lib.zeros24 at hnd hfm
  go_enter Tryd.func77, Tryd.ntmps77
  go_wp2_with (first
    | (go_at_call 87; refine hnd.mono ?_; clear hnd; rintro e w1 ⟨rfl, hw1⟩; subst hw1)
    | (go_at_call 88; refine hfm.mono ?_; clear hfm; rintro e w2 ⟨rfl, hcv, hb⟩; have HB : Hid (Below w.heap.size w w2) := hb; clear hb))
  go_ret
  exact ⟨rfl, HB.out⟩
end Go.Proofs.YtinfnkhghmcelaaDoor

/- Zeros, and a float's text without a power of ten. -/
namespace Go.Proofs.YtinfnkhghmcelaaDoor
open Go.RowKit Go.Maps

set_option maxRecDepth 100000 in
theorem fu_any (u : Nat) (hu64 : u < 18446744073709551616) (w : World) (hp : Pow w) : Calls Tryd.prog 57 #[.int .u64 u, .int .i64 10] w fun e w' => e = .returned (.string ⟨(Lib.decDigits u).toArray⟩) ∧ Below w.heap.size w w' := by
  by_cases h : u < 100
  · exact fu_small u h w
  · have hs := fu_great u (by omega) hu64 w hp
    generalize Lib.decDigits u = D at *
    clear hp
    go_enter Tryd.func57, Tryd.ntmps57
    go_wp2_with (go_at_call 77; refine hs.mono ?_; clear hs; rintro e w1 ⟨rfl, hb1⟩; have HB1 : Hid (Below w.heap.size w w1) := hb1; clear hb1)
    go_ret
    exact ⟨rfl, HB1.out⟩
theorem hp_in (S : ByteArray) (R : Bool) (w : World) (h1 : 1 ≤ S.size) (h2 : S.size ≤ 1000) (h3 : ((S.data.toList.drop 0).take 1 == [48]) = R) : Calls Tryd.prog 94 #[.string S, .string ⟨#[48]⟩] w fun e w' => e = .returned (.bool R) ∧ w' = w := by
  go_enter Tryd.func94, Tryd.ntmps94
  go_wp2
  go_ret
  exact ⟨by rw [← h3, ← Lib.extract_toList S 0 1]; rfl, rfl⟩
theorem hp_any (S : ByteArray) (R : Bool) (w : World) (h1 : 1 ≤ S.size) (h2 : S.size ≤ 1000) (h3 : ((S.data.toList.drop 0).take 1 == [48]) = R) : Calls Tryd.prog 81 #[.string S, .string ⟨#[48]⟩] w fun e w' => e = .returned (.bool R) ∧ w' = w := by
  have hs := hp_in S R w h1 h2 h3
  clear h3
  go_enter Tryd.func81, Tryd.ntmps81
  go_wp2_with (go_at_call 94; refine hs.mono ?_; clear hs; rintro e w1 ⟨rfl, hw1⟩; have hw1 := hw1.symm; subst hw1)
  go_ret
  exact ⟨rfl, rfl⟩
theorem zeros_cut (n c : Nat) (hc : c ≤ n) : (⟨(List.replicate n (48 : UInt8)).toArray⟩ : ByteArray).extract 0 c = ⟨(List.replicate c 48).toArray⟩ := by
  apply ByteArray.ext
  rw [ByteArray.data_extract]
  apply Array.ext'
  rw [Array.toList_extract]
  simp [List.extract, List.take_replicate, Nat.min_eq_left hc]
def Z64 : ByteArray := ⟨(List.replicate 64 48).toArray⟩

set_option maxRecDepth 100000 in
set_option maxHeartbeats 1000000 in
theorem repeat_more (c : Nat) (h2 : 2 ≤ c) (hc : c ≤ 60) (w : World) : Calls Tryd.prog 73 #[.string ⟨#[48]⟩, .int .i64 c] w fun e w' => e = .returned (.string ⟨(List.replicate c 48).toArray⟩) ∧ w' = w := by
  have hm0 := Any.bits_Mul Tryd.lays212 1 c (by decide) (by omega) w
  rw [Nat.one_mul, Nat.div_eq_of_lt (by omega), Nat.mod_eq_of_lt (by omega)] at hm0
  have hm : Calls Tryd.prog 80 #[.int .u64 1, .int .u64 c] w fun e w' => e = .returned (.tuple #[.int .u64 0, .int .u64 c]) ∧ w' = w := hm0
  have HH : Hid (∀ (S : ByteArray) (R : Bool), 1 ≤ S.size → S.size ≤ 1000 → ((S.data.toList.drop 0).take 1 == [48]) = R → Calls Tryd.prog 81 #[.string S, .string ⟨#[48]⟩] w fun e w' => e = .returned (.bool R) ∧ w' = w) := fun S R a b d => hp_any S R w a b d
  have HZ : Hid (Z64.extract 0 c = ⟨(List.replicate c 48).toArray⟩) := zeros_cut 64 c (by omega)
  clear hm0
  go_enter Tryd.func73, Tryd.ntmps73
  go_wp2_with (first
    | (go_at_call 80; refine hm.mono ?_; clear hm; rintro e w1 ⟨rfl, hw1⟩; have hw1 := hw1.symm; subst hw1)
    | (go_at_call 81; refine (HH.out _ false (by decide) (by decide) (by decide)).mono ?_; rintro e w1 ⟨rfl, hw1⟩; have hw1 := hw1.symm; subst hw1)
    | (go_at_call 81; refine (HH.out _ true (by decide) (by decide) (by decide)).mono ?_; rintro e w1 ⟨rfl, hw1⟩; have hw1 := hw1.symm; subst hw1))
  go_ret
  exact ⟨congrArg (fun b => Ending.returned (.string b)) ((congrArg (fun z : ByteArray => z.extract 0 c) (show _ = Z64 by kernel_rfl)).trans HZ.out), rfl⟩
end Go.Proofs.YtinfnkhghmcelaaDoor

/- The document's digits of a whole number. -/
namespace Go.Proofs.YtinfnkhghmcelaaDoor
open Go.RowKit Go.Maps

theorem ba_join (a b : List UInt8) : ((⟨a.toArray⟩ : ByteArray) ++ ⟨b.toArray⟩) = ⟨(a ++ b).toArray⟩ := by
  apply ByteArray.ext
  simp
theorem conv_digit (W : World) (z : Int) (h0 : 0 ≤ z) (h1 : z < 256) : (convert 44 9 (.slice (some ⟨W.heap.size, 0, none⟩) 1 1)).run Tryd.prog (W.alloc (.cells #[.int .u8 z] 5)) = .ok (.string ⟨#[UInt8.ofNat z.toNat]⟩) (W.alloc (.cells #[.int .u8 z] 5)) := by
  refine run_convert_bytes_back (P := Tryd.prog) (W.alloc (.cells #[.int .u8 z] 5)) 44 9 5 ⟨W.heap.size, 0, none⟩ 1 [UInt8.ofNat z.toNat] Tryd.underlying44 Tryd.underlying5 Tryd.underlying9 (fun j hj => ?_)
  have hj0 : j = 0 := by simp at hj; omega
  subst hj0
  have e : ((UInt8.ofNat z.toNat).toNat : Int) = z := by rw [UInt8.toNat_ofNat']; omega
  have hc : (W.alloc (.cells #[.int .u8 z] 5)).cell? ⟨W.heap.size, 0, none⟩ = some (.int .u8 z) := by
    have := heap_alloc_new W (.cells #[.int .u8 z] 5)
    simp only [World.cell?, this]
    rfl
  rw [Addr.add_lit, hc]
  show some (Value.int .u8 z) = some (Value.int .u8 ((UInt8.ofNat z.toNat).toNat : Nat))
  rw [e]
set_option maxRecDepth 100000 in
set_option maxHeartbeats 300000 in
theorem plain_step (n m q : Int) (dd : UInt8) (D : List UInt8) (w : World) (hm : n.tmod 10 = m) (hq : n.tdiv 10 = q) (hq1 : -9223372036854775808 ≤ q) (hq2 : q ≤ 9223372036854775807) (h1 : -10 < m) (h2 : m < 10) (hdd : dd = UInt8.ofNat (48 + m.natAbs)) (hD : D.length ≤ 30)
    (hrec : q = 0 ∨ (q ≠ 0 ∧ ∀ W : World, Calls Tryd.prog 44 #[.int .i64 q] W fun e w' => e = .returned (.string ⟨D.toArray⟩) ∧ Below W.heap.size W w')) :
    Calls Tryd.prog 44 #[.int .i64 n] w fun e w' => e = .returned (.string ⟨(if q = 0 then [dd] else D ++ [dd]).toArray⟩) ∧ Below w.heap.size w w' := by
  have hw : wrap64 q = q := by unfold wrap64; omega
  have hcv := conv_digit w (48 + m.natAbs) (by omega) (by omega)
  rw [show (48 + (m.natAbs : Int)).toNat = 48 + m.natAbs by omega, ← hdd] at hcv
  have HDD : Hid (dd = UInt8.ofNat (48 + m.natAbs)) := hdd
  clear hdd
  rcases hrec with h0 | ⟨h0, hrec⟩
  · rw [if_pos h0]
    subst h0
    by_cases hneg : m < 0
    · rw [show (m.natAbs : Int) = -m by omega] at hcv
      go_enter Tryd.func44, Tryd.ntmps44
      go_wp2
      go_ret
      exact ⟨rfl, (Below.refl _ _).alloc (Nat.le_refl _) _⟩
    · rw [show (m.natAbs : Int) = m by omega] at hcv
      go_enter Tryd.func44, Tryd.ntmps44
      go_wp2
      go_ret
      exact ⟨rfl, (Below.refl _ _).alloc (Nat.le_refl _) _⟩
  · rw [if_neg h0]
    have hqb : (q == 0) = false := by rw [beq_eq_false_iff_ne]; exact h0
    have HJ : Hid ((⟨D.toArray⟩ : ByteArray) ++ ⟨#[dd]⟩ = ⟨(D ++ [dd]).toArray⟩) := ba_join D [dd]
    have HRE : Hid (∀ W : World, Calls Tryd.prog 44 #[.int .i64 q] W fun e w' => e = .returned (.string ⟨D.toArray⟩) ∧ Below W.heap.size W w') := hrec
    have hsz : (⟨D.toArray⟩ : ByteArray).size ≤ 30 := by simp [ByteArray.size]; omega
    clear hrec
    generalize (⟨D.toArray⟩ : ByteArray) = DS at *
    by_cases hneg : m < 0
    · rw [show (m.natAbs : Int) = -m by omega] at hcv
      go_enter Tryd.func44, Tryd.ntmps44
      go_wp2_with (go_at_call 44; refine (HRE.out _).mono ?_; rintro e w1 ⟨rfl, hb1⟩; have HB1 : Hid (Below w.heap.size w w1) := ((Below.refl _ _).alloc (Nat.le_refl _) _).trans (hb1.mono (by simp)); clear hb1)
      go_ret
      exact ⟨by rw [← HJ.out]; rfl, HB1.out⟩
    · rw [show (m.natAbs : Int) = m by omega] at hcv
      go_enter Tryd.func44, Tryd.ntmps44
      go_wp2_with (go_at_call 44; refine (HRE.out _).mono ?_; rintro e w1 ⟨rfl, hb1⟩; have HB1 : Hid (Below w.heap.size w w1) := ((Below.refl _ _).alloc (Nat.le_refl _) _).trans (hb1.mono (by simp)); clear hb1)
      go_ret
      exact ⟨by rw [← HJ.out]; rfl, HB1.out⟩
/-- The document's text of a number without its sign. -/
theorem plainRef_any : ∀ (k : Nat) (n : Int), n.natAbs ≤ k → -9223372036854775808 ≤ n → n ≤ 9223372036854775807 → ∀ w : World, Calls Tryd.prog 44 #[.int .i64 n] w fun e w' => e = .returned (.string ⟨(Lib.decDigits n.natAbs).toArray⟩) ∧ Below w.heap.size w w'
  | k, n, hk, h1, h2, w => by
    have ha : (n.tmod 10).natAbs = n.natAbs % 10 := Int.natAbs_tmod n 10
    have hb : (n.tdiv 10).natAbs = n.natAbs / 10 := Int.natAbs_tdiv n 10
    have hm1 : -10 < n.tmod 10 := by omega
    have hm2 : n.tmod 10 < 10 := by omega
    have hq1 : -9223372036854775808 ≤ n.tdiv 10 := by omega
    have hq2 : n.tdiv 10 ≤ 9223372036854775807 := by omega
    by_cases h10 : n.natAbs < 10
    · have hz : n.tdiv 10 = 0 := by omega
      have h := plain_step n (n.tmod 10) (n.tdiv 10) _ [] w rfl rfl hq1 hq2 hm1 hm2 rfl (by simp) (Or.inl hz)
      rw [if_pos hz, ha, Nat.mod_eq_of_lt h10] at h
      rw [Lib.decDigits_one h10]
      exact h
    · have hz : n.tdiv 10 ≠ 0 := by omega
      cases k with
      | zero => omega
      | succ k =>
        have hr := plainRef_any k (n.tdiv 10) (by omega) hq1 hq2
        have hl : (Lib.decDigits (n.tdiv 10).natAbs).length ≤ 20 := dec_len _ (by omega)
        have h := plain_step n (n.tmod 10) (n.tdiv 10) _ (Lib.decDigits (n.tdiv 10).natAbs) w rfl rfl hq1 hq2 hm1 hm2 rfl (by omega) (Or.inr ⟨hz, hr⟩)
        rw [if_neg hz, ha, hb] at h
        have hd : Lib.decDigits n.natAbs = Lib.decDigits (n.natAbs / 10) ++ [UInt8.ofNat (48 + n.natAbs % 10)] := by rw [Lib.decDigits, dif_neg h10]
        rw [hd]
        exact h
end Go.Proofs.YtinfnkhghmcelaaDoor

/- The document's text of a natural. -/
namespace Go.Proofs.YtinfnkhghmcelaaDoor
open Go.RowKit Go.Maps

theorem baz (T : List UInt8) : (⟨T.toArray⟩ : ByteArray).size = T.length := by simp [ByteArray.size]
theorem val_pad (t : List UInt8) : valT (48 :: t) = valT t := by rw [valT_cons]; simp
/-- A text of digits without noughts ahead says its number, and is the only one. -/
structure NumT (T : List UInt8) (A : Nat) : Prop where
  dig : ∀ b ∈ T, isD b
  ne : T ≠ []
  head : T.head? ≠ some 48
  val : valT T = A
theorem NumT.low {T : List UInt8} {A : Nat} (h : NumT T A) : 10 ^ (T.length - 1) ≤ A := by
  obtain ⟨h1, h2, h3, h4⟩ := h
  cases T with
  | nil => exact absurd rfl h2
  | cons b t =>
    have hb := h1 b (by simp)
    unfold isD at hb
    have hb2 : b.toNat ≠ 48 := fun e => h3 (by
      have : b = 48 := UInt8.toNat_inj.1 (by rw [e]; rfl)
      rw [this]
      rfl)
    rw [← h4, valT_cons, List.length_cons, Nat.add_sub_cancel]
    have : 1 * 10 ^ t.length ≤ (b.toNat - 48) * 10 ^ t.length := Nat.mul_le_mul_right _ (by omega)
    omega
theorem valT_inj : ∀ {s t : List UInt8}, s.length = t.length → (∀ b ∈ s, isD b) → (∀ b ∈ t, isD b) → valT s = valT t → s = t
  | [], [], _, _, _, _ => rfl
  | [], _ :: _, h, _, _, _ => by cases h
  | _ :: _, [], h, _, _, _ => by cases h
  | a :: s, b :: t, h, h1, h2, hv => by
    have hl : s.length = t.length := by simpa using h
    rw [valT_cons, valT_cons, hl] at hv
    have ls := valT_lt s (fun x hx => h1 x (by simp [hx]))
    have lt := valT_lt t (fun x hx => h2 x (by simp [hx]))
    rw [hl] at ls
    have ha := h1 a (by simp)
    have hb := h2 b (by simp)
    unfold isD at ha hb
    have hp : 0 < 10 ^ t.length := Nat.pow_pos (by decide)
    have e1 : a.toNat - 48 = b.toNat - 48 := by
      have q1 : ((a.toNat - 48) * 10 ^ t.length + valT s) / 10 ^ t.length = a.toNat - 48 := by
        rw [Nat.add_comm, Nat.add_mul_div_right _ _ hp, Nat.div_eq_of_lt ls, Nat.zero_add]
      have q2 : ((b.toNat - 48) * 10 ^ t.length + valT t) / 10 ^ t.length = b.toNat - 48 := by
        rw [Nat.add_comm, Nat.add_mul_div_right _ _ hp, Nat.div_eq_of_lt lt, Nat.zero_add]
      rw [← q1, ← q2, hv]
    rw [e1] at hv
    have e2 : a = b := UInt8.toNat_inj.1 (by omega)
    rw [e2, valT_inj hl (fun x hx => h1 x (by simp [hx])) (fun x hx => h2 x (by simp [hx])) (by omega)]
theorem NumT.one {S T : List UInt8} {A : Nat} (h1 : NumT S A) (h2 : NumT T A) : S = T := by
  have l1 := h1.low
  have l2 := h2.low
  have u1 := valT_lt S h1.dig
  have u2 := valT_lt T h2.dig
  rw [h1.val] at u1
  rw [h2.val] at u2
  have p1 := (Nat.pow_lt_pow_iff_right (a := 10) (by decide)).1 (Nat.lt_of_le_of_lt l1 u2)
  have p2 := (Nat.pow_lt_pow_iff_right (a := 10) (by decide)).1 (Nat.lt_of_le_of_lt l2 u1)
  have n1 := List.length_pos_iff.2 h1.ne
  have n2 := List.length_pos_iff.2 h2.ne
  exact valT_inj (by omega) h1.dig h2.dig (by rw [h1.val, h2.val])
theorem dec_num : ∀ (n u : Nat), u ≤ n → 0 < u → NumT (Lib.decDigits u) u := fun n u hu h0 => by
  have h := dec_val n u hu
  refine ⟨h.1, h.2.1, ?_, h.2.2⟩
  have key : ∀ (k x : Nat), x ≤ k → 0 < x → (Lib.decDigits x).head? ≠ some 48 := by
    intro k
    induction k with
    | zero => intro x hx h0; omega
    | succ k ih =>
      intro x hx h0
      by_cases h10 : x < 10
      · rw [Lib.decDigits_one h10]
        intro e
        have e2 : UInt8.ofNat (48 + x) = 48 := by simpa using e
        have e3 := congrArg UInt8.toNat e2
        rw [UInt8.toNat_ofNat'] at e3
        simp at e3
        omega
      · rw [Lib.decDigits, dif_neg h10]
        have h9 := ih (x / 10) (by omega) (by omega)
        have hne := (dec_val (x / 10) (x / 10) (Nat.le_refl _)).2.1
        cases hd : Lib.decDigits (x / 10) with
        | nil => exact absurd hd hne
        | cons b t =>
          rw [hd] at h9
          simpa using h9
  exact key u u (Nat.le_refl _) h0
theorem dec_four {d : Nat} (h : d < 10000) : (Lib.decDigits d).length ≤ 4 := by
  rcases Nat.eq_zero_or_pos d with h0 | h0
  · subst h0
    rw [Lib.decDigits_one (by decide)]
    decide
  · have h1 := (dec_num d d (Nat.le_refl _) h0).low
    have h2 : 10 ^ ((Lib.decDigits d).length - 1) < 10 ^ 4 := by omega
    have := (Nat.pow_lt_pow_iff_right (a := 10) (by decide)).1 h2
    omega
end Go.Proofs.YtinfnkhghmcelaaDoor
