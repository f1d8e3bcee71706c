/- Texts that belong together. -/
import Derived.Test.YtfckdleahljdeaaGreatDoorMQn
import Derived.Test.YtfckdleahljdeaaGreatDoorSr
import Derived.Lib.Strings
import Derived.Test.YtfckdleahljdeaaGreatDoorMEl
/- Whole numbers written, and zeros. -/
namespace Go.Proofs.YtfckdleahljdeaaGreatDoor.Nu
open Go.RowKit Go.Maps Go.Sort

end Go.Proofs.YtfckdleahljdeaaGreatDoor.Nu

/- Zeros, and a float's text without a power of ten. -/
namespace Go.Proofs.YtfckdleahljdeaaGreatDoor.Nu
open Go.RowKit Go.Maps

theorem zeros_cut (n c : Nat) (hc : c ≤ n) : (⟨(List.replicate n (48 : UInt8)).toArray⟩ : ByteArray).extract 0 c = ⟨(List.replicate c 48).toArray⟩ := by
  apply ByteArray.ext
  rw [ByteArray.data_extract]
  apply Array.ext'
  rw [Array.toList_extract]
  simp [List.extract, List.take_replicate, Nat.min_eq_left hc]
def Z64 : ByteArray := ⟨(List.replicate 64 48).toArray⟩

end Go.Proofs.YtfckdleahljdeaaGreatDoor.Nu

/- The document's digits of a whole number. -/
namespace Go.Proofs.YtfckdleahljdeaaGreatDoor.Nu
open Go.RowKit Go.Maps

theorem ba_join (a b : List UInt8) : ((⟨a.toArray⟩ : ByteArray) ++ ⟨b.toArray⟩) = ⟨(a ++ b).toArray⟩ := by
  apply ByteArray.ext
  simp
theorem conv_digit (W : World) (z : Int) (h0 : 0 ≤ z) (h1 : z < 256) : (convert 23 9 (.slice (some ⟨W.heap.size, 0, none⟩) 1 1)).run Tryz.prog (W.alloc (.cells #[.int .u8 z] 5)) = .ok (.string ⟨#[UInt8.ofNat z.toNat]⟩) (W.alloc (.cells #[.int .u8 z] 5)) := by
  refine run_convert_bytes_back (P := Tryz.prog) (W.alloc (.cells #[.int .u8 z] 5)) 23 9 5 ⟨W.heap.size, 0, none⟩ 1 [UInt8.ofNat z.toNat] Tryz.underlying23 Tryz.underlying5 Tryz.underlying9 (fun j hj => ?_)
  have hj0 : j = 0 := by simp at hj; omega
  subst hj0
  have e : ((UInt8.ofNat z.toNat).toNat : Int) = z := by rw [UInt8.toNat_ofNat']; omega
  have hc : (W.alloc (.cells #[.int .u8 z] 5)).cell? ⟨W.heap.size, 0, none⟩ = some (.int .u8 z) := by
    have := heap_alloc_new W (.cells #[.int .u8 z] 5)
    simp only [World.cell?, this]
    rfl
  rw [Addr.add_lit, hc]
  show some (Value.int .u8 z) = some (Value.int .u8 ((UInt8.ofNat z.toNat).toNat : Nat))
  rw [e]
set_option maxRecDepth 100000 in
set_option maxHeartbeats 300000 in
theorem plain_step (n m q : Int) (dd : UInt8) (D : List UInt8) (w : World) (hm : n.tmod 10 = m) (hq : n.tdiv 10 = q) (hq1 : -9223372036854775808 ≤ q) (hq2 : q ≤ 9223372036854775807) (h1 : -10 < m) (h2 : m < 10) (hdd : dd = UInt8.ofNat (48 + m.natAbs)) (hD : D.length ≤ 30)
    (hrec : q = 0 ∨ (q ≠ 0 ∧ ∀ W : World, Calls Tryz.prog 103 #[.int .i64 q] W fun e w' => e = .returned (.string ⟨D.toArray⟩) ∧ Below W.heap.size W w')) :
    Calls Tryz.prog 103 #[.int .i64 n] w fun e w' => e = .returned (.string ⟨(if q = 0 then [dd] else D ++ [dd]).toArray⟩) ∧ Below w.heap.size w w' := by
  have hw : wrap64 q = q := by unfold wrap64; omega
  have hcv := conv_digit w (48 + m.natAbs) (by omega) (by omega)
  rw [show (48 + (m.natAbs : Int)).toNat = 48 + m.natAbs by omega, ← hdd] at hcv
  have HDD : Hid (dd = UInt8.ofNat (48 + m.natAbs)) := hdd
  clear hdd
  rcases hrec with h0 | ⟨h0, hrec⟩
  · rw [if_pos h0]
    subst h0
    by_cases hneg : m < 0
    · rw [show (m.natAbs : Int) = -m by omega] at hcv
      go_enter Tryz.func103, Tryz.ntmps103
      go_wp2
      go_ret
      exact ⟨rfl, (Below.refl _ _).alloc (Nat.le_refl _) _⟩
    · rw [show (m.natAbs : Int) = m by omega] at hcv
      go_enter Tryz.func103, Tryz.ntmps103
      go_wp2
      go_ret
      exact ⟨rfl, (Below.refl _ _).alloc (Nat.le_refl _) _⟩
  · rw [if_neg h0]
    have hqb : (q == 0) = false := by rw [beq_eq_false_iff_ne]; exact h0
    have HJ : Hid ((⟨D.toArray⟩ : ByteArray) ++ ⟨#[dd]⟩ = ⟨(D ++ [dd]).toArray⟩) := ba_join D [dd]
    have HRE : Hid (∀ W : World, Calls Tryz.prog 103 #[.int .i64 q] W fun e w' => e = .returned (.string ⟨D.toArray⟩) ∧ Below W.heap.size W w') := hrec
    have hsz : (⟨D.toArray⟩ : ByteArray).size ≤ 30 := by simp [ByteArray.size]; omega
    clear hrec
    generalize (⟨D.toArray⟩ : ByteArray) = DS at *
    by_cases hneg : m < 0
    · rw [show (m.natAbs : Int) = -m by omega] at hcv
      go_enter Tryz.func103, Tryz.ntmps103
      go_wp2_with (go_at_call 103; refine (HRE.out _).mono ?_; rintro e w1 ⟨rfl, hb1⟩; have HB1 : Hid (Below w.heap.size w w1) := ((Below.refl _ _).alloc (Nat.le_refl _) _).trans (hb1.mono (by simp)); clear hb1)
      go_ret
      exact ⟨by rw [← HJ.out]; rfl, HB1.out⟩
    · rw [show (m.natAbs : Int) = m by omega] at hcv
      go_enter Tryz.func103, Tryz.ntmps103
      go_wp2_with (go_at_call 103; refine (HRE.out _).mono ?_; rintro e w1 ⟨rfl, hb1⟩; have HB1 : Hid (Below w.heap.size w w1) := ((Below.refl _ _).alloc (Nat.le_refl _) _).trans (hb1.mono (by simp)); clear hb1)
      go_ret
      exact ⟨by rw [← HJ.out]; rfl, HB1.out⟩
/-- The document's text of a number without its sign. -/
theorem plainRef_any : ∀ (k : Nat) (n : Int), n.natAbs ≤ k → -9223372036854775808 ≤ n → n ≤ 9223372036854775807 → ∀ w : World, Calls Tryz.prog 103 #[.int .i64 n] w fun e w' => e = .returned (.string ⟨(Lib.decDigits n.natAbs).toArray⟩) ∧ Below w.heap.size w w'
  | k, n, hk, h1, h2, w => by
    have ha : (n.tmod 10).natAbs = n.natAbs % 10 := Int.natAbs_tmod n 10
    have hb : (n.tdiv 10).natAbs = n.natAbs / 10 := Int.natAbs_tdiv n 10
    have hm1 : -10 < n.tmod 10 := by omega
    have hm2 : n.tmod 10 < 10 := by omega
    have hq1 : -9223372036854775808 ≤ n.tdiv 10 := by omega
    have hq2 : n.tdiv 10 ≤ 9223372036854775807 := by omega
    by_cases h10 : n.natAbs < 10
    · have hz : n.tdiv 10 = 0 := by omega
      have h := plain_step n (n.tmod 10) (n.tdiv 10) _ [] w rfl rfl hq1 hq2 hm1 hm2 rfl (by simp) (Or.inl hz)
      rw [if_pos hz, ha, Nat.mod_eq_of_lt h10] at h
      rw [Lib.decDigits_one h10]
      exact h
    · have hz : n.tdiv 10 ≠ 0 := by omega
      cases k with
      | zero => omega
      | succ k =>
        have hr := plainRef_any k (n.tdiv 10) (by omega) hq1 hq2
        have hl : (Lib.decDigits (n.tdiv 10).natAbs).length ≤ 20 := dec_len _ (by omega)
        have h := plain_step n (n.tmod 10) (n.tdiv 10) _ (Lib.decDigits (n.tdiv 10).natAbs) w rfl rfl hq1 hq2 hm1 hm2 rfl (by omega) (Or.inr ⟨hz, hr⟩)
        rw [if_neg hz, ha, hb] at h
        have hd : Lib.decDigits n.natAbs = Lib.decDigits (n.natAbs / 10) ++ [UInt8.ofNat (48 + n.natAbs % 10)] := by rw [Lib.decDigits, dif_neg h10]
        rw [hd]
        exact h
end Go.Proofs.YtfckdleahljdeaaGreatDoor.Nu

/- The document's text of a whole number. -/
namespace Go.Proofs.YtfckdleahljdeaaGreatDoor.Nu
open Go.RowKit Go.Maps

set_option maxRecDepth 100000 in
theorem refIntText_any (n : Int) (w : World) (h1 : -9223372036854775808 ≤ n) (h2 : n ≤ 9223372036854775807) : Calls Tryz.prog 77 #[.int .i64 n] w fun e w' => e = .returned (.string ⟨(Lib.itoa n).toArray⟩) ∧ Below w.heap.size w w' := by
  have hp := plainRef_any n.natAbs n (Nat.le_refl _) h1 h2 w
  have hl : (Lib.decDigits n.natAbs).length ≤ 20 := dec_len _ (by omega)
  by_cases hn : n < 0
  · have HJ : Hid ((⟨#[45]⟩ : ByteArray) ++ ⟨(Lib.decDigits n.natAbs).toArray⟩ = ⟨(Lib.itoa n).toArray⟩) := by
      show _ = _
      unfold Lib.itoa
      rw [if_pos hn]
      exact ba_join [45] _
    have hsz : (⟨(Lib.decDigits n.natAbs).toArray⟩ : ByteArray).size ≤ 30 := by simp [ByteArray.size]; omega
    generalize (⟨(Lib.decDigits n.natAbs).toArray⟩ : ByteArray) = DS at *
    go_enter Tryz.func77, Tryz.ntmps77
    go_wp2_with (go_at_call 103; refine hp.mono ?_; clear hp; rintro e w1 ⟨rfl, hb1⟩; have HB1 : Hid (Below w.heap.size w w1) := hb1; clear hb1)
    go_ret
    exact ⟨by rw [← HJ.out]; rfl, HB1.out⟩
  · have HJ : Hid ((⟨(Lib.decDigits n.natAbs).toArray⟩ : ByteArray) = ⟨(Lib.itoa n).toArray⟩) := by
      show _ = _
      unfold Lib.itoa
      rw [if_neg hn, show n.toNat = n.natAbs by omega]
    generalize (⟨(Lib.decDigits n.natAbs).toArray⟩ : ByteArray) = DS at *
    go_enter Tryz.func77, Tryz.ntmps77
    go_wp2_with (go_at_call 103; refine hp.mono ?_; clear hp; rintro e w1 ⟨rfl, hb1⟩; have HB1 : Hid (Below w.heap.size w w1) := hb1; clear hb1)
    go_ret
    exact ⟨by rw [← HJ.out]; rfl, HB1.out⟩
end Go.Proofs.YtfckdleahljdeaaGreatDoor.Nu

/- The document's reading of whole numbers. -/
namespace Go.Proofs.YtfckdleahljdeaaGreatDoor.Nu
open Go.RowKit Go.Maps

set_option maxRecDepth 100000 in
set_option maxHeartbeats 2000000 in
theorem refInt_plain (s : ByteArray) (rv re : Int) (w : World) (hs : s.size ≤ 140737488351232) (HC : Hid (SignCut s s false))
    (HY : Hid (∀ v, inI v → s = ⟨(Lib.itoa v).toArray⟩ → rv = v ∧ re = 0)) (HN : Hid ((∀ v, inI v → s ≠ ⟨(Lib.itoa v).toArray⟩) → rv = 0 ∧ re = 8)) :
    Calls Tryz.prog 48 #[.string s] w fun e w' => e = .returned (.tuple #[.int .i64 rv, .int .i64 re]) ∧ Below w.heap.size w w' := by
  have HTL : Hid (∀ n, inI n → ∀ W : World, Calls Tryz.prog 77 #[.int .i64 n] W fun e w' => e = .returned (.string ⟨(Lib.itoa n).toArray⟩) ∧ Below W.heap.size W w') := fun n hn W => refIntText_any n W hn.1 hn.2
  have hlen : s.data.toList.length = s.size := by simp
  by_cases h0 : s.size = 0
  · have hR := HN.out (fun v _ => no_empty HC.out (List.eq_nil_of_length_eq_zero (by omega)) v)
    obtain ⟨rfl, rfl⟩ := hR
    have hn1 := is_nil h0
    have hn2 := is_empty h0
    clear HTL
    go_enter Tryz.func48, Tryz.ntmps48
    go_wp2
    go_loop [6, 7] (fun n i => i = .int .i64 0 ∧ n = .int .i64 0) (fun _ _ => 0)
    case atStart => exact ⟨rfl, rfl⟩
    case round =>
      obtain ⟨rfl, rfl⟩ := hrel
      go_wp2
      go_ret2
      exact ⟨rfl, Below.refl _ _⟩
  · have h0' : 0 < s.size := by omega
    have h45' : s[0].toNat ≠ 45 := fun e => by
      rcases HC.out with ⟨h1, _⟩ | ⟨_, _, h3⟩
      · cases h1
      · have h4 := drop_byte s 0 h0'
        rw [List.drop_zero] at h4
        refine h3 (s.data.toList.drop 1) (h4.trans ?_)
        rw [show s[0] = 45 from UInt8.toNat_inj.1 e]
    have h45i : ((s[0].toNat : Int) == 45) = false := by rw [beq_eq_false_iff_ne]; omega
    have hbl0 : s[0].toNat < 256 := s[0].toNat_lt
    have hn1 := not_nil (s := s) (by omega)
    have hn2 := not_empty (s := s) (by omega)
    clear h45'
    go_enter Tryz.func48, Tryz.ntmps48
    go_wp2
    go_loop [6, 7] (fun n i => ∃ k N : Nat, k ≤ s.size ∧ k ≤ 19 ∧ i = .int .i64 k ∧ n = .int .i64 (-(N : Int)) ∧ N ≤ 9223372036854775808 ∧ Hid (N = valT (s.data.toList.take k))) (fun _ i => s.size - (intOf i).toNat)
    case atStart => exact ⟨0, 0, Nat.zero_le _, by omega, rfl, rfl, by omega, by show _ = _; simp [valT]⟩
    case round =>
      obtain ⟨k, N, hk, hk19, rfl, rfl, hN, HV⟩ := hrel
      by_cases hlt : k < s.size
      · have hbl : s[k].toNat < 256 := s[k].toNat_lt
        have hgt := getT s k hlt (by omega)
        by_cases hd : 48 ≤ s[k].toNat ∧ s[k].toNat ≤ 57
        · have HV2 : Hid (valT (s.data.toList.take (k + 1)) = N * 10 + (s[k].toNat - 48)) := by
            show _ = _
            rw [valT_snoc _ k (by omega), hgt, HV.out]
          obtain ⟨hd1, hd2⟩ := hd
          have hdig := refDigit_yes (b := (s[k].toNat : Int)) w (by omega) (by omega)
          by_cases h19 : k = 19
          · have hR := HN.out (fun v hv => no_long HC.out (by omega) v hv)
            obtain ⟨rfl, rfl⟩ := hR
            have h19i : (19 : Int) ≤ k := by omega
            clear HV2 HV hgt h19 hk19
            generalize hyyy : s[k].toNat = y at *
            go_wp2_with (go_at_call 73; refine hdig.mono ?_; clear hdig; rintro e w2 ⟨rfl, hw2⟩; have hw2 := hw2.symm; subst hw2)
            go_ret2
            exact ⟨rfl, Below.refl _ _⟩
          · have h19i : ¬ (19 : Int) ≤ k := by omega
            by_cases hgr : 9223372036854775808 < N * 10 + (s[k].toNat - 48)
            · have hR := HN.out (fun v hv => no_great HC.out (k := k + 1) (by rw [HV2.out]; exact hgr) v hv)
              obtain ⟨rfl, rfl⟩ := hR
              have hq := quo_low (s[k].toNat - 48) (by omega)
              rw [show (((s[k].toNat - 48 : Nat)) : Int) = (s[k].toNat : Int) - 48 by omega] at hq
              clear HV2 HV hgt
              generalize hyyy : s[k].toNat = y at *
              obtain ⟨Q, hQ⟩ : ∃ Q : Nat, Q = (9223372036854775808 - (y - 48)) / 10 := ⟨_, rfl⟩
              rw [← hQ] at hq
              have hw : wrap64 (-(Q : Int)) = -(Q : Int) := by unfold wrap64; omega
              have hc1 : -(N : Int) < -(Q : Int) := by omega
              clear hgr
              go_wp2_with (go_at_call 73; refine hdig.mono ?_; clear hdig; rintro e w2 ⟨rfl, hw2⟩; have hw2 := hw2.symm; subst hw2)
              go_ret2
              exact ⟨rfl, Below.refl _ _⟩
            · have hq := quo_low (s[k].toNat - 48) (by omega)
              rw [show (((s[k].toNat - 48 : Nat)) : Int) = (s[k].toNat : Int) - 48 by omega] at hq
              clear HV hgt
              generalize hyyy : s[k].toNat = y at *
              obtain ⟨Q, hQ⟩ : ∃ Q : Nat, Q = (9223372036854775808 - (y - 48)) / 10 := ⟨_, rfl⟩
              rw [← hQ] at hq
              have hw : wrap64 (-(Q : Int)) = -(Q : Int) := by unfold wrap64; omega
              have hc1 : ¬ -(N : Int) < -(Q : Int) := by omega
              go_wp2_with (go_at_call 73; refine hdig.mono ?_; clear hdig; rintro e w2 ⟨rfl, hw2⟩; have hw2 := hw2.symm; subst hw2)
              go_round
              case rel => exact ⟨k + 1, N * 10 + (y - 48), by omega, by omega, by go_num, by congr 1; omega, by omega, HV2.out.symm⟩
              case measure => simp [intOf]; omega
        · have hR := HN.out (fun v _ => no_digit HC.out (k := k) (by omega) (by rw [hgt]; exact hd) v)
          obtain ⟨rfl, rfl⟩ := hR
          have hdig := refDigit_no (b := (s[k].toNat : Int)) w (by omega)
          clear HV hgt
          generalize hyyy : s[k].toNat = y at *
          go_wp2_with (go_at_call 73; refine hdig.mono ?_; clear hdig; rintro e w2 ⟨rfl, hw2⟩; have hw2 := hw2.symm; subst hw2)
          go_ret2
          exact ⟨rfl, Below.refl _ _⟩
      · obtain rfl : k = s.size := by omega
        have hV := HV.out
        rw [List.take_of_length_le (Nat.le_of_eq hlen)] at hV
        clear HV
        by_cases hmin : N = 9223372036854775808
        · have hR := HN.out (fun v hv => no_plain HC.out rfl (hV.symm.trans hmin) v hv)
          obtain ⟨rfl, rfl⟩ := hR
          subst hmin
          go_wp2
          go_ret2
          exact ⟨rfl, Below.refl _ _⟩
        · have hmini : ((-(N : Int)) == -9223372036854775808) = false := by rw [beq_eq_false_iff_ne]; omega
          have hin : inI (N : Int) := by unfold inI; omega
          by_cases heq : s = ⟨(Lib.itoa (N : Int)).toArray⟩
          · obtain ⟨rfl, rfl⟩ := HY.out _ hin heq
            have hit := HTL.out _ hin w
            rw [← heq] at hit
            clear heq hV
            go_wp2_with (go_at_call 77; refine hit.mono ?_; clear hit; rintro e w2 ⟨rfl, hb2⟩; have HB2 : Hid (Below w.heap.size w w2) := hb2; clear hb2)
            go_ret2
            exact ⟨rfl, HB2.out⟩
          · have hR := HN.out (fun v _ => no_other HC.out (n := (N : Int)) (by rw [hV]; rfl) heq v)
            obtain ⟨rfl, rfl⟩ := hR
            have hit := HTL.out _ hin w
            have hne : ((⟨(Lib.itoa (N : Int)).toArray⟩ : ByteArray).toList == s.toList) = false := ne_list (fun e => heq e.symm)
            clear heq hV
            generalize (⟨(Lib.itoa (N : Int)).toArray⟩ : ByteArray) = IS at *
            go_wp2_with (go_at_call 77; refine hit.mono ?_; clear hit; rintro e w2 ⟨rfl, hb2⟩; have HB2 : Hid (Below w.heap.size w w2) := hb2; clear hb2)
            go_ret2
            exact ⟨rfl, HB2.out⟩
set_option maxRecDepth 100000 in
set_option maxHeartbeats 2000000 in
theorem refInt_minus (s t : ByteArray) (rv re : Int) (w : World) (hs : s.size ≤ 140737488351232) (HC : Hid (SignCut s t true))
    (HY : Hid (∀ v, inI v → s = ⟨(Lib.itoa v).toArray⟩ → rv = v ∧ re = 0)) (HN : Hid ((∀ v, inI v → s ≠ ⟨(Lib.itoa v).toArray⟩) → rv = 0 ∧ re = 8)) :
    Calls Tryz.prog 48 #[.string s] w fun e w' => e = .returned (.tuple #[.int .i64 rv, .int .i64 re]) ∧ Below w.heap.size w w' := by
  have HTL : Hid (∀ n, inI n → ∀ W : World, Calls Tryz.prog 77 #[.int .i64 n] W fun e w' => e = .returned (.string ⟨(Lib.itoa n).toArray⟩) ∧ Below W.heap.size W w') := fun n hn W => refIntText_any n W hn.1 hn.2
  have hlen : t.data.toList.length = t.size := by simp
  have hl : s.data.toList = 45 :: t.data.toList := by
    rcases HC.out with ⟨_, h1⟩ | ⟨h1, _⟩
    · exact h1
    · cases h1
  have hsz : s.size = t.size + 1 := by
    have h9 := congrArg List.length hl
    simp at h9
    exact h9
  have h0' : 0 < s.size := by omega
  have h45' : s[0].toNat = 45 := by
    have h4 := drop_byte s 0 h0'
    rw [List.drop_zero, hl] at h4
    rw [← (List.cons.inj h4).1]
    rfl
  have hext : s.extract 1 s.size = t := by
    apply ByteArray.ext
    apply Array.ext'
    simp [ByteArray.data_extract, List.extract_eq_take_drop, hl, hsz]
    exact List.take_of_length_le (Nat.le_of_eq hlen)
  have hn1 := not_nil (s := s) (by omega)
  have hn2 := not_empty (s := s) (by omega)
  have hts : t.size ≤ 140737488351232 := by omega
  clear hl hsz
  by_cases h0 : t.size = 0
  · have hR := HN.out (fun v _ => no_empty HC.out (List.eq_nil_of_length_eq_zero (by omega)) v)
    obtain ⟨rfl, rfl⟩ := hR
    have hm1 := is_nil h0
    have hm2 := is_empty h0
    clear HTL
    go_enter Tryz.func48, Tryz.ntmps48
    go_wp2
    try rw [hext]
    go_loop [6, 7] (fun n i => i = .int .i64 0 ∧ n = .int .i64 0) (fun _ _ => 0)
    case atStart => exact ⟨rfl, rfl⟩
    case round =>
      obtain ⟨rfl, rfl⟩ := hrel
      go_wp2
      go_ret2
      exact ⟨rfl, Below.refl _ _⟩
  · have hm1 := not_nil (s := t) (by omega)
    have hm2 := not_empty (s := t) (by omega)
    go_enter Tryz.func48, Tryz.ntmps48
    go_wp2
    try rw [hext]
    go_loop [6, 7] (fun n i => ∃ k N : Nat, k ≤ t.size ∧ k ≤ 19 ∧ i = .int .i64 k ∧ n = .int .i64 (-(N : Int)) ∧ N ≤ 9223372036854775808 ∧ Hid (N = valT (t.data.toList.take k))) (fun _ i => t.size - (intOf i).toNat)
    case atStart => exact ⟨0, 0, Nat.zero_le _, by omega, rfl, rfl, by omega, by show _ = _; simp [valT]⟩
    case round =>
      obtain ⟨k, N, hk, hk19, rfl, rfl, hN, HV⟩ := hrel
      by_cases hlt : k < t.size
      · have hbl : t[k].toNat < 256 := t[k].toNat_lt
        have hgt := getT t k hlt (by omega)
        by_cases hd : 48 ≤ t[k].toNat ∧ t[k].toNat ≤ 57
        · have HV2 : Hid (valT (t.data.toList.take (k + 1)) = N * 10 + (t[k].toNat - 48)) := by
            show _ = _
            rw [valT_snoc _ k (by omega), hgt, HV.out]
          obtain ⟨hd1, hd2⟩ := hd
          have hdig := refDigit_yes (b := (t[k].toNat : Int)) w (by omega) (by omega)
          by_cases h19 : k = 19
          · have hR := HN.out (fun v hv => no_long HC.out (by omega) v hv)
            obtain ⟨rfl, rfl⟩ := hR
            have h19i : (19 : Int) ≤ k := by omega
            clear HV2 HV hgt h19 hk19
            generalize hyyy : t[k].toNat = y at *
            go_wp2_with (go_at_call 73; refine hdig.mono ?_; clear hdig; rintro e w2 ⟨rfl, hw2⟩; have hw2 := hw2.symm; subst hw2)
            go_ret2
            exact ⟨rfl, Below.refl _ _⟩
          · have h19i : ¬ (19 : Int) ≤ k := by omega
            by_cases hgr : 9223372036854775808 < N * 10 + (t[k].toNat - 48)
            · have hR := HN.out (fun v hv => no_great HC.out (k := k + 1) (by rw [HV2.out]; exact hgr) v hv)
              obtain ⟨rfl, rfl⟩ := hR
              have hq := quo_low (t[k].toNat - 48) (by omega)
              rw [show (((t[k].toNat - 48 : Nat)) : Int) = (t[k].toNat : Int) - 48 by omega] at hq
              clear HV2 HV hgt
              generalize hyyy : t[k].toNat = y at *
              obtain ⟨Q, hQ⟩ : ∃ Q : Nat, Q = (9223372036854775808 - (y - 48)) / 10 := ⟨_, rfl⟩
              rw [← hQ] at hq
              have hw : wrap64 (-(Q : Int)) = -(Q : Int) := by unfold wrap64; omega
              have hc1 : -(N : Int) < -(Q : Int) := by omega
              clear hgr
              go_wp2_with (go_at_call 73; refine hdig.mono ?_; clear hdig; rintro e w2 ⟨rfl, hw2⟩; have hw2 := hw2.symm; subst hw2)
              go_ret2
              exact ⟨rfl, Below.refl _ _⟩
            · have hq := quo_low (t[k].toNat - 48) (by omega)
              rw [show (((t[k].toNat - 48 : Nat)) : Int) = (t[k].toNat : Int) - 48 by omega] at hq
              clear HV hgt
              generalize hyyy : t[k].toNat = y at *
              obtain ⟨Q, hQ⟩ : ∃ Q : Nat, Q = (9223372036854775808 - (y - 48)) / 10 := ⟨_, rfl⟩
              rw [← hQ] at hq
              have hw : wrap64 (-(Q : Int)) = -(Q : Int) := by unfold wrap64; omega
              have hc1 : ¬ -(N : Int) < -(Q : Int) := by omega
              go_wp2_with (go_at_call 73; refine hdig.mono ?_; clear hdig; rintro e w2 ⟨rfl, hw2⟩; have hw2 := hw2.symm; subst hw2)
              go_round
              case rel => exact ⟨k + 1, N * 10 + (y - 48), by omega, by omega, by go_num, by congr 1; omega, by omega, HV2.out.symm⟩
              case measure => simp [intOf]; omega
        · have hR := HN.out (fun v _ => no_digit HC.out (k := k) (by omega) (by rw [hgt]; exact hd) v)
          obtain ⟨rfl, rfl⟩ := hR
          have hdig := refDigit_no (b := (t[k].toNat : Int)) w (by omega)
          clear HV hgt
          generalize hyyy : t[k].toNat = y at *
          go_wp2_with (go_at_call 73; refine hdig.mono ?_; clear hdig; rintro e w2 ⟨rfl, hw2⟩; have hw2 := hw2.symm; subst hw2)
          go_ret2
          exact ⟨rfl, Below.refl _ _⟩
      · obtain rfl : k = t.size := by omega
        have hV := HV.out
        rw [List.take_of_length_le (Nat.le_of_eq hlen)] at hV
        clear HV
        have hin : inI (-(N : Int)) := by unfold inI; omega
        by_cases heq : s = ⟨(Lib.itoa (-(N : Int))).toArray⟩
        · obtain ⟨rfl, rfl⟩ := HY.out _ hin heq
          have hit := HTL.out _ hin w
          rw [← heq] at hit
          clear heq hV
          go_wp2_with (go_at_call 77; refine hit.mono ?_; clear hit; rintro e w2 ⟨rfl, hb2⟩; have HB2 : Hid (Below w.heap.size w w2) := hb2; clear hb2)
          go_ret2
          exact ⟨rfl, HB2.out⟩
        · have hR := HN.out (fun v _ => no_other HC.out (n := -(N : Int)) (by rw [hV]; rfl) heq v)
          obtain ⟨rfl, rfl⟩ := hR
          have hit := HTL.out _ hin w
          have hne : ((⟨(Lib.itoa (-(N : Int))).toArray⟩ : ByteArray).toList == s.toList) = false := ne_list (fun e => heq e.symm)
          clear heq hV
          generalize (⟨(Lib.itoa (-(N : Int))).toArray⟩ : ByteArray) = IS at *
          go_wp2_with (go_at_call 77; refine hit.mono ?_; clear hit; rintro e w2 ⟨rfl, hb2⟩; have HB2 : Hid (Below w.heap.size w w2) := hb2; clear hb2)
          go_ret2
          exact ⟨rfl, HB2.out⟩
end Go.Proofs.YtfckdleahljdeaaGreatDoor.Nu
