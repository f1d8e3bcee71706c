/- Texts that belong together. -/
import Derived.Test.YtmlcilalmhpmiaaDoorMFa
/- The document's digits of a whole number. -/
namespace Go.Proofs.YtmlcilalmhpmiaaDoor
open Go.RowKit Go.Maps

theorem ba_join (a b : List UInt8) : ((⟨a.toArray⟩ : ByteArray) ++ ⟨b.toArray⟩) = ⟨(a ++ b).toArray⟩ := by
  apply ByteArray.ext
  simp
theorem conv_digit (W : World) (z : Int) (h0 : 0 ≤ z) (h1 : z < 256) : (convert 56 9 (.slice (some ⟨W.heap.size, 0, none⟩) 1 1)).run Tryd.prog (W.alloc (.cells #[.int .u8 z] 5)) = .ok (.string ⟨#[UInt8.ofNat z.toNat]⟩) (W.alloc (.cells #[.int .u8 z] 5)) := by
  refine run_convert_bytes_back (P := Tryd.prog) (W.alloc (.cells #[.int .u8 z] 5)) 56 9 5 ⟨W.heap.size, 0, none⟩ 1 [UInt8.ofNat z.toNat] Tryd.underlying56 Tryd.underlying5 Tryd.underlying9 (fun j hj => ?_)
  have hj0 : j = 0 := by simp at hj; omega
  subst hj0
  have e : ((UInt8.ofNat z.toNat).toNat : Int) = z := by rw [UInt8.toNat_ofNat']; omega
  have hc : (W.alloc (.cells #[.int .u8 z] 5)).cell? ⟨W.heap.size, 0, none⟩ = some (.int .u8 z) := by
    have := heap_alloc_new W (.cells #[.int .u8 z] 5)
    simp only [World.cell?, this]
    rfl
  rw [Addr.add_lit, hc]
  show some (Value.int .u8 z) = some (Value.int .u8 ((UInt8.ofNat z.toNat).toNat : Nat))
  rw [e]
set_option maxRecDepth 100000 in
set_option maxHeartbeats 300000 in
theorem plain_step (n m q : Int) (dd : UInt8) (D : List UInt8) (w : World) (hm : n.tmod 10 = m) (hq : n.tdiv 10 = q) (hq1 : -9223372036854775808 ≤ q) (hq2 : q ≤ 9223372036854775807) (h1 : -10 < m) (h2 : m < 10) (hdd : dd = UInt8.ofNat (48 + m.natAbs)) (hD : D.length ≤ 30)
    (hrec : q = 0 ∨ (q ≠ 0 ∧ ∀ W : World, Calls Tryd.prog 45 #[.int .i64 q] W fun e w' => e = .returned (.string ⟨D.toArray⟩) ∧ Below W.heap.size W w')) :
    Calls Tryd.prog 45 #[.int .i64 n] w fun e w' => e = .returned (.string ⟨(if q = 0 then [dd] else D ++ [dd]).toArray⟩) ∧ Below w.heap.size w w' := by
  have hw : wrap64 q = q := by unfold wrap64; omega
  have hcv := conv_digit w (48 + m.natAbs) (by omega) (by omega)
  rw [show (48 + (m.natAbs : Int)).toNat = 48 + m.natAbs by omega, ← hdd] at hcv
  have HDD : Hid (dd = UInt8.ofNat (48 + m.natAbs)) := hdd
  clear hdd
  rcases hrec with h0 | ⟨h0, hrec⟩
  · rw [if_pos h0]
    subst h0
    by_cases hneg : m < 0
    · rw [show (m.natAbs : Int) = -m by omega] at hcv
      go_enter Tryd.func45, Tryd.ntmps45
      go_wp2
      go_ret
      exact ⟨rfl, (Below.refl _ _).alloc (Nat.le_refl _) _⟩
    · rw [show (m.natAbs : Int) = m by omega] at hcv
      go_enter Tryd.func45, Tryd.ntmps45
      go_wp2
      go_ret
      exact ⟨rfl, (Below.refl _ _).alloc (Nat.le_refl _) _⟩
  · rw [if_neg h0]
    have hqb : (q == 0) = false := by rw [beq_eq_false_iff_ne]; exact h0
    have HJ : Hid ((⟨D.toArray⟩ : ByteArray) ++ ⟨#[dd]⟩ = ⟨(D ++ [dd]).toArray⟩) := ba_join D [dd]
    have HRE : Hid (∀ W : World, Calls Tryd.prog 45 #[.int .i64 q] W fun e w' => e = .returned (.string ⟨D.toArray⟩) ∧ Below W.heap.size W w') := hrec
    have hsz : (⟨D.toArray⟩ : ByteArray).size ≤ 30 := by simp [ByteArray.size]; omega
    clear hrec
    generalize (⟨D.toArray⟩ : ByteArray) = DS at *
    by_cases hneg : m < 0
    · rw [show (m.natAbs : Int) = -m by omega] at hcv
      go_enter Tryd.func45, Tryd.ntmps45
      go_wp2_with (go_at_call 45; refine (HRE.out _).mono ?_; rintro e w1 ⟨rfl, hb1⟩; have HB1 : Hid (Below w.heap.size w w1) := ((Below.refl _ _).alloc (Nat.le_refl _) _).trans (hb1.mono (by simp)); clear hb1)
      go_ret
      exact ⟨by rw [← HJ.out]; rfl, HB1.out⟩
    · rw [show (m.natAbs : Int) = m by omega] at hcv
      go_enter Tryd.func45, Tryd.ntmps45
      go_wp2_with (go_at_call 45; refine (HRE.out _).mono ?_; rintro e w1 ⟨rfl, hb1⟩; have HB1 : Hid (Below w.heap.size w w1) := ((Below.refl _ _).alloc (Nat.le_refl _) _).trans (hb1.mono (by simp)); clear hb1)
      go_ret
      exact ⟨by rw [← HJ.out]; rfl, HB1.out⟩
/-- The document's text of a number without its sign. -/
theorem plainRef_any : ∀ (k : Nat) (n : Int), n.natAbs ≤ k → -9223372036854775808 ≤ n → n ≤ 9223372036854775807 → ∀ w : World, Calls Tryd.prog 45 #[.int .i64 n] w fun e w' => e = .returned (.string ⟨(Lib.decDigits n.natAbs).toArray⟩) ∧ Below w.heap.size w w'
  | k, n, hk, h1, h2, w => by
    have ha : (n.tmod 10).natAbs = n.natAbs % 10 := Int.natAbs_tmod n 10
    have hb : (n.tdiv 10).natAbs = n.natAbs / 10 := Int.natAbs_tdiv n 10
    have hm1 : -10 < n.tmod 10 := by omega
    have hm2 : n.tmod 10 < 10 := by omega
    have hq1 : -9223372036854775808 ≤ n.tdiv 10 := by omega
    have hq2 : n.tdiv 10 ≤ 9223372036854775807 := by omega
    by_cases h10 : n.natAbs < 10
    · have hz : n.tdiv 10 = 0 := by omega
      have h := plain_step n (n.tmod 10) (n.tdiv 10) _ [] w rfl rfl hq1 hq2 hm1 hm2 rfl (by simp) (Or.inl hz)
      rw [if_pos hz, ha, Nat.mod_eq_of_lt h10] at h
      rw [Lib.decDigits_one h10]
      exact h
    · have hz : n.tdiv 10 ≠ 0 := by omega
      cases k with
      | zero => omega
      | succ k =>
        have hr := plainRef_any k (n.tdiv 10) (by omega) hq1 hq2
        have hl : (Lib.decDigits (n.tdiv 10).natAbs).length ≤ 20 := dec_len _ (by omega)
        have h := plain_step n (n.tmod 10) (n.tdiv 10) _ (Lib.decDigits (n.tdiv 10).natAbs) w rfl rfl hq1 hq2 hm1 hm2 rfl (by omega) (Or.inr ⟨hz, hr⟩)
        rw [if_neg hz, ha, hb] at h
        have hd : Lib.decDigits n.natAbs = Lib.decDigits (n.natAbs / 10) ++ [UInt8.ofNat (48 + n.natAbs % 10)] := by rw [Lib.decDigits, dif_neg h10]
        rw [hd]
        exact h
end Go.Proofs.YtmlcilalmhpmiaaDoor

/- The document's text of a whole number. -/
namespace Go.Proofs.YtmlcilalmhpmiaaDoor
open Go.RowKit Go.Maps

set_option maxRecDepth 100000 in
theorem refIntText_any (n : Int) (w : World) (h1 : -9223372036854775808 ≤ n) (h2 : n ≤ 9223372036854775807) : Calls Tryd.prog 24 #[.int .i64 n] w fun e w' => e = .returned (.string ⟨(Lib.itoa n).toArray⟩) ∧ Below w.heap.size w w' := by
  have hp := plainRef_any n.natAbs n (Nat.le_refl _) h1 h2 w
  have hl : (Lib.decDigits n.natAbs).length ≤ 20 := dec_len _ (by omega)
  by_cases hn : n < 0
  · have HJ : Hid ((⟨#[45]⟩ : ByteArray) ++ ⟨(Lib.decDigits n.natAbs).toArray⟩ = ⟨(Lib.itoa n).toArray⟩) := by
      show _ = _
      unfold Lib.itoa
      rw [if_pos hn]
      exact ba_join [45] _
    have hsz : (⟨(Lib.decDigits n.natAbs).toArray⟩ : ByteArray).size ≤ 30 := by simp [ByteArray.size]; omega
    generalize (⟨(Lib.decDigits n.natAbs).toArray⟩ : ByteArray) = DS at *
    go_enter Tryd.func24, Tryd.ntmps24
    go_wp2_with (go_at_call 45; refine hp.mono ?_; clear hp; rintro e w1 ⟨rfl, hb1⟩; have HB1 : Hid (Below w.heap.size w w1) := hb1; clear hb1)
    go_ret
    exact ⟨by rw [← HJ.out]; rfl, HB1.out⟩
  · have HJ : Hid ((⟨(Lib.decDigits n.natAbs).toArray⟩ : ByteArray) = ⟨(Lib.itoa n).toArray⟩) := by
      show _ = _
      unfold Lib.itoa
      rw [if_neg hn, show n.toNat = n.natAbs by omega]
    generalize (⟨(Lib.decDigits n.natAbs).toArray⟩ : ByteArray) = DS at *
    go_enter Tryd.func24, Tryd.ntmps24
    go_wp2_with (go_at_call 45; refine hp.mono ?_; clear hp; rintro e w1 ⟨rfl, hb1⟩; have HB1 : Hid (Below w.heap.size w w1) := hb1; clear hb1)
    go_ret
    exact ⟨by rw [← HJ.out]; rfl, HB1.out⟩
end Go.Proofs.YtmlcilalmhpmiaaDoor
