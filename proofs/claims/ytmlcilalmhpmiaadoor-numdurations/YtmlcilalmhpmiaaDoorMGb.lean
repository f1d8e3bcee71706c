/- The document's reading of whole numbers. -/
import Derived.Test.YtmlcilalmhpmiaaDoorMEl
import Derived.Test.YtmlcilalmhpmiaaDoorMFl
namespace Go.Proofs.YtmlcilalmhpmiaaDoor
open Go.RowKit Go.Maps

theorem refDigit_any (b : Int) (w : World) : Calls Tryd.prog 54 #[.int .u8 b] w fun e w' => e = .returned (.bool (decide (48 ≤ b ∧ b ≤ 57))) ∧ w' = w := by
  have key : ∀ R : Bool, R = decide (48 ≤ b ∧ b ≤ 57) → Calls Tryd.prog 54 #[.int .u8 b] w fun e w' => e = .returned (.bool R) ∧ w' = w := fun R hR => by
    have HR : Hid (R = decide (48 ≤ b ∧ b ≤ 57)) := hR
    clear hR
    by_cases h1 : 48 ≤ b
    · by_cases h2 : b ≤ 57
      · have e : R = true := by rw [HR.out]; simp; omega
        subst e
        clear HR
        go_enter Tryd.func54, Tryd.ntmps54
        go_wp2
        go_ret
        exact ⟨rfl, rfl⟩
      · have e : R = false := by rw [HR.out]; simp; omega
        subst e
        clear HR
        go_enter Tryd.func54, Tryd.ntmps54
        go_wp2
        go_ret
        exact ⟨rfl, rfl⟩
    · have e : R = false := by rw [HR.out]; simp; omega
      subst e
      clear HR
      go_enter Tryd.func54, Tryd.ntmps54
      go_wp2
      go_ret
      exact ⟨rfl, rfl⟩
  exact key _ rfl
theorem refDigit_yes {b : Int} (w : World) (h1 : 48 ≤ b) (h2 : b ≤ 57) : Calls Tryd.prog 54 #[.int .u8 b] w fun e w' => e = .returned (.bool true) ∧ w' = w := by
  have := refDigit_any b w
  rw [show decide (48 ≤ b ∧ b ≤ 57) = true by simp; omega] at this
  exact this
theorem refDigit_no {b : Int} (w : World) (h : ¬ (48 ≤ b ∧ b ≤ 57)) : Calls Tryd.prog 54 #[.int .u8 b] w fun e w' => e = .returned (.bool false) ∧ w' = w := by
  have := refDigit_any b w
  rw [show decide (48 ≤ b ∧ b ≤ 57) = false by simp; omega] at this
  exact this

theorem ne_list {a b : ByteArray} (h : a ≠ b) : (a.toList == b.toList) = false := by
  rw [beq_eq_false_iff_ne, ByteArray.toList_eq, ByteArray.toList_eq]
  intro e
  exact h (ByteArray.ext (Array.ext' e))

set_option maxRecDepth 100000 in
set_option maxHeartbeats 2000000 in
theorem refInt_plain (s : ByteArray) (rv re : Int) (w : World) (hs : s.size ≤ 140737488351232) (HC : Hid (SignCut s s false))
    (HY : Hid (∀ v, inI v → s = ⟨(Lib.itoa v).toArray⟩ → rv = v ∧ re = 0)) (HN : Hid ((∀ v, inI v → s ≠ ⟨(Lib.itoa v).toArray⟩) → rv = 0 ∧ re = 8)) :
    Calls Tryd.prog 23 #[.string s] w fun e w' => e = .returned (.tuple #[.int .i64 rv, .int .i64 re]) ∧ Below w.heap.size w w' := by
  have HTL : Hid (∀ n, inI n → ∀ W : World, Calls Tryd.prog 24 #[.int .i64 n] W fun e w' => e = .returned (.string ⟨(Lib.itoa n).toArray⟩) ∧ Below W.heap.size W w') := fun n hn W => refIntText_any n W hn.1 hn.2
  have hlen : s.data.toList.length = s.size := by simp
  by_cases h0 : s.size = 0
  · have hR := HN.out (fun v _ => no_empty HC.out (List.eq_nil_of_length_eq_zero (by omega)) v)
    obtain ⟨rfl, rfl⟩ := hR
    have hn1 := is_nil h0
    have hn2 := is_empty h0
    clear HTL
    go_enter Tryd.func23, Tryd.ntmps23
    go_wp2
    go_loop [6, 7] (fun n i => i = .int .i64 0 ∧ n = .int .i64 0) (fun _ _ => 0)
    case atStart => exact ⟨rfl, rfl⟩
    case round =>
      obtain ⟨rfl, rfl⟩ := hrel
      go_wp2
      go_ret2
      exact ⟨rfl, Below.refl _ _⟩
  · have h0' : 0 < s.size := by omega
    have h45' : s[0].toNat ≠ 45 := fun e => by
      rcases HC.out with ⟨h1, _⟩ | ⟨_, _, h3⟩
      · cases h1
      · have h4 := drop_byte s 0 h0'
        rw [List.drop_zero] at h4
        refine h3 (s.data.toList.drop 1) (h4.trans ?_)
        rw [show s[0] = 45 from UInt8.toNat_inj.1 e]
    have h45i : ((s[0].toNat : Int) == 45) = false := by rw [beq_eq_false_iff_ne]; omega
    have hbl0 : s[0].toNat < 256 := s[0].toNat_lt
    have hn1 := not_nil (s := s) (by omega)
    have hn2 := not_empty (s := s) (by omega)
    clear h45'
    go_enter Tryd.func23, Tryd.ntmps23
    go_wp2
    go_loop [6, 7] (fun n i => ∃ k N : Nat, k ≤ s.size ∧ k ≤ 19 ∧ i = .int .i64 k ∧ n = .int .i64 (-(N : Int)) ∧ N ≤ 9223372036854775808 ∧ Hid (N = valT (s.data.toList.take k))) (fun _ i => s.size - (intOf i).toNat)
    case atStart => exact ⟨0, 0, Nat.zero_le _, by omega, rfl, rfl, by omega, by show _ = _; simp [valT]⟩
    case round =>
      obtain ⟨k, N, hk, hk19, rfl, rfl, hN, HV⟩ := hrel
      by_cases hlt : k < s.size
      · have hbl : s[k].toNat < 256 := s[k].toNat_lt
        have hgt := getT s k hlt (by omega)
        by_cases hd : 48 ≤ s[k].toNat ∧ s[k].toNat ≤ 57
        · have HV2 : Hid (valT (s.data.toList.take (k + 1)) = N * 10 + (s[k].toNat - 48)) := by
            show _ = _
            rw [valT_snoc _ k (by omega), hgt, HV.out]
          obtain ⟨hd1, hd2⟩ := hd
          have hdig := refDigit_yes (b := (s[k].toNat : Int)) w (by omega) (by omega)
          by_cases h19 : k = 19
          · have hR := HN.out (fun v hv => no_long HC.out (by omega) v hv)
            obtain ⟨rfl, rfl⟩ := hR
            have h19i : (19 : Int) ≤ k := by omega
            clear HV2 HV hgt h19 hk19
            generalize hyyy : s[k].toNat = y at *
            go_wp2_with (go_at_call 54; refine hdig.mono ?_; clear hdig; rintro e w2 ⟨rfl, hw2⟩; have hw2 := hw2.symm; subst hw2)
            go_ret2
            exact ⟨rfl, Below.refl _ _⟩
          · have h19i : ¬ (19 : Int) ≤ k := by omega
            by_cases hgr : 9223372036854775808 < N * 10 + (s[k].toNat - 48)
            · have hR := HN.out (fun v hv => no_great HC.out (k := k + 1) (by rw [HV2.out]; exact hgr) v hv)
              obtain ⟨rfl, rfl⟩ := hR
              have hq := quo_low (s[k].toNat - 48) (by omega)
              rw [show (((s[k].toNat - 48 : Nat)) : Int) = (s[k].toNat : Int) - 48 by omega] at hq
              clear HV2 HV hgt
              generalize hyyy : s[k].toNat = y at *
              obtain ⟨Q, hQ⟩ : ∃ Q : Nat, Q = (9223372036854775808 - (y - 48)) / 10 := ⟨_, rfl⟩
              rw [← hQ] at hq
              have hw : wrap64 (-(Q : Int)) = -(Q : Int) := by unfold wrap64; omega
              have hc1 : -(N : Int) < -(Q : Int) := by omega
              clear hgr
              go_wp2_with (go_at_call 54; refine hdig.mono ?_; clear hdig; rintro e w2 ⟨rfl, hw2⟩; have hw2 := hw2.symm; subst hw2)
              go_ret2
              exact ⟨rfl, Below.refl _ _⟩
            · have hq := quo_low (s[k].toNat - 48) (by omega)
              rw [show (((s[k].toNat - 48 : Nat)) : Int) = (s[k].toNat : Int) - 48 by omega] at hq
              clear HV hgt
              generalize hyyy : s[k].toNat = y at *
              obtain ⟨Q, hQ⟩ : ∃ Q : Nat, Q = (9223372036854775808 - (y - 48)) / 10 := ⟨_, rfl⟩
              rw [← hQ] at hq
              have hw : wrap64 (-(Q : Int)) = -(Q : Int) := by unfold wrap64; omega
              have hc1 : ¬ -(N : Int) < -(Q : Int) := by omega
              go_wp2_with (go_at_call 54; refine hdig.mono ?_; clear hdig; rintro e w2 ⟨rfl, hw2⟩; have hw2 := hw2.symm; subst hw2)
              go_round
              case rel => exact ⟨k + 1, N * 10 + (y - 48), by omega, by omega, by go_num, by congr 1; omega, by omega, HV2.out.symm⟩
              case measure => simp [intOf]; omega
        · have hR := HN.out (fun v _ => no_digit HC.out (k := k) (by omega) (by rw [hgt]; exact hd) v)
          obtain ⟨rfl, rfl⟩ := hR
          have hdig := refDigit_no (b := (s[k].toNat : Int)) w (by omega)
          clear HV hgt
          generalize hyyy : s[k].toNat = y at *
          go_wp2_with (go_at_call 54; refine hdig.mono ?_; clear hdig; rintro e w2 ⟨rfl, hw2⟩; have hw2 := hw2.symm; subst hw2)
          go_ret2
          exact ⟨rfl, Below.refl _ _⟩
      · obtain rfl : k = s.size := by omega
        have hV := HV.out
        rw [List.take_of_length_le (Nat.le_of_eq hlen)] at hV
        clear HV
        by_cases hmin : N = 9223372036854775808
        · have hR := HN.out (fun v hv => no_plain HC.out rfl (hV.symm.trans hmin) v hv)
          obtain ⟨rfl, rfl⟩ := hR
          subst hmin
          go_wp2
          go_ret2
          exact ⟨rfl, Below.refl _ _⟩
        · have hmini : ((-(N : Int)) == -9223372036854775808) = false := by rw [beq_eq_false_iff_ne]; omega
          have hin : inI (N : Int) := by unfold inI; omega
          by_cases heq : s = ⟨(Lib.itoa (N : Int)).toArray⟩
          · obtain ⟨rfl, rfl⟩ := HY.out _ hin heq
            have hit := HTL.out _ hin w
            rw [← heq] at hit
            clear heq hV
            go_wp2_with (go_at_call 24; refine hit.mono ?_; clear hit; rintro e w2 ⟨rfl, hb2⟩; have HB2 : Hid (Below w.heap.size w w2) := hb2; clear hb2)
            go_ret2
            exact ⟨rfl, HB2.out⟩
          · have hR := HN.out (fun v _ => no_other HC.out (n := (N : Int)) (by rw [hV]; rfl) heq v)
            obtain ⟨rfl, rfl⟩ := hR
            have hit := HTL.out _ hin w
            have hne : ((⟨(Lib.itoa (N : Int)).toArray⟩ : ByteArray).toList == s.toList) = false := ne_list (fun e => heq e.symm)
            clear heq hV
            generalize (⟨(Lib.itoa (N : Int)).toArray⟩ : ByteArray) = IS at *
            go_wp2_with (go_at_call 24; refine hit.mono ?_; clear hit; rintro e w2 ⟨rfl, hb2⟩; have HB2 : Hid (Below w.heap.size w w2) := hb2; clear hb2)
            go_ret2
            exact ⟨rfl, HB2.out⟩
set_option maxRecDepth 100000 in
set_option maxHeartbeats 2000000 in
theorem refInt_minus (s t : ByteArray) (rv re : Int) (w : World) (hs : s.size ≤ 140737488351232) (HC : Hid (SignCut s t true))
    (HY : Hid (∀ v, inI v → s = ⟨(Lib.itoa v).toArray⟩ → rv = v ∧ re = 0)) (HN : Hid ((∀ v, inI v → s ≠ ⟨(Lib.itoa v).toArray⟩) → rv = 0 ∧ re = 8)) :
    Calls Tryd.prog 23 #[.string s] w fun e w' => e = .returned (.tuple #[.int .i64 rv, .int .i64 re]) ∧ Below w.heap.size w w' := by
  have HTL : Hid (∀ n, inI n → ∀ W : World, Calls Tryd.prog 24 #[.int .i64 n] W fun e w' => e = .returned (.string ⟨(Lib.itoa n).toArray⟩) ∧ Below W.heap.size W w') := fun n hn W => refIntText_any n W hn.1 hn.2
  have hlen : t.data.toList.length = t.size := by simp
  have hl : s.data.toList = 45 :: t.data.toList := by
    rcases HC.out with ⟨_, h1⟩ | ⟨h1, _⟩
    · exact h1
    · cases h1
  have hsz : s.size = t.size + 1 := by
    have h9 := congrArg List.length hl
    simp at h9
    exact h9
  have h0' : 0 < s.size := by omega
  have h45' : s[0].toNat = 45 := by
    have h4 := drop_byte s 0 h0'
    rw [List.drop_zero, hl] at h4
    rw [← (List.cons.inj h4).1]
    rfl
  have hext : s.extract 1 s.size = t := by
    apply ByteArray.ext
    apply Array.ext'
    simp [ByteArray.data_extract, List.extract_eq_take_drop, hl, hsz]
    exact List.take_of_length_le (Nat.le_of_eq hlen)
  have hn1 := not_nil (s := s) (by omega)
  have hn2 := not_empty (s := s) (by omega)
  have hts : t.size ≤ 140737488351232 := by omega
  clear hl hsz
  by_cases h0 : t.size = 0
  · have hR := HN.out (fun v _ => no_empty HC.out (List.eq_nil_of_length_eq_zero (by omega)) v)
    obtain ⟨rfl, rfl⟩ := hR
    have hm1 := is_nil h0
    have hm2 := is_empty h0
    clear HTL
    go_enter Tryd.func23, Tryd.ntmps23
    go_wp2
    try rw [hext]
    go_loop [6, 7] (fun n i => i = .int .i64 0 ∧ n = .int .i64 0) (fun _ _ => 0)
    case atStart => exact ⟨rfl, rfl⟩
    case round =>
      obtain ⟨rfl, rfl⟩ := hrel
      go_wp2
      go_ret2
      exact ⟨rfl, Below.refl _ _⟩
  · have hm1 := not_nil (s := t) (by omega)
    have hm2 := not_empty (s := t) (by omega)
    go_enter Tryd.func23, Tryd.ntmps23
    go_wp2
    try rw [hext]
    go_loop [6, 7] (fun n i => ∃ k N : Nat, k ≤ t.size ∧ k ≤ 19 ∧ i = .int .i64 k ∧ n = .int .i64 (-(N : Int)) ∧ N ≤ 9223372036854775808 ∧ Hid (N = valT (t.data.toList.take k))) (fun _ i => t.size - (intOf i).toNat)
    case atStart => exact ⟨0, 0, Nat.zero_le _, by omega, rfl, rfl, by omega, by show _ = _; simp [valT]⟩
    case round =>
      obtain ⟨k, N, hk, hk19, rfl, rfl, hN, HV⟩ := hrel
      by_cases hlt : k < t.size
      · have hbl : t[k].toNat < 256 := t[k].toNat_lt
        have hgt := getT t k hlt (by omega)
        by_cases hd : 48 ≤ t[k].toNat ∧ t[k].toNat ≤ 57
        · have HV2 : Hid (valT (t.data.toList.take (k + 1)) = N * 10 + (t[k].toNat - 48)) := by
            show _ = _
            rw [valT_snoc _ k (by omega), hgt, HV.out]
          obtain ⟨hd1, hd2⟩ := hd
          have hdig := refDigit_yes (b := (t[k].toNat : Int)) w (by omega) (by omega)
          by_cases h19 : k = 19
          · have hR := HN.out (fun v hv => no_long HC.out (by omega) v hv)
            obtain ⟨rfl, rfl⟩ := hR
            have h19i : (19 : Int) ≤ k := by omega
            clear HV2 HV hgt h19 hk19
            generalize hyyy : t[k].toNat = y at *
            go_wp2_with (go_at_call 54; refine hdig.mono ?_; clear hdig; rintro e w2 ⟨rfl, hw2⟩; have hw2 := hw2.symm; subst hw2)
            go_ret2
            exact ⟨rfl, Below.refl _ _⟩
          · have h19i : ¬ (19 : Int) ≤ k := by omega
            by_cases hgr : 9223372036854775808 < N * 10 + (t[k].toNat - 48)
            · have hR := HN.out (fun v hv => no_great HC.out (k := k + 1) (by rw [HV2.out]; exact hgr) v hv)
              obtain ⟨rfl, rfl⟩ := hR
              have hq := quo_low (t[k].toNat - 48) (by omega)
              rw [show (((t[k].toNat - 48 : Nat)) : Int) = (t[k].toNat : Int) - 48 by omega] at hq
              clear HV2 HV hgt
              generalize hyyy : t[k].toNat = y at *
              obtain ⟨Q, hQ⟩ : ∃ Q : Nat, Q = (9223372036854775808 - (y - 48)) / 10 := ⟨_, rfl⟩
              rw [← hQ] at hq
              have hw : wrap64 (-(Q : Int)) = -(Q : Int) := by unfold wrap64; omega
              have hc1 : -(N : Int) < -(Q : Int) := by omega
              clear hgr
              go_wp2_with (go_at_call 54; refine hdig.mono ?_; clear hdig; rintro e w2 ⟨rfl, hw2⟩; have hw2 := hw2.symm; subst hw2)
              go_ret2
              exact ⟨rfl, Below.refl _ _⟩
            · have hq := quo_low (t[k].toNat - 48) (by omega)
              rw [show (((t[k].toNat - 48 : Nat)) : Int) = (t[k].toNat : Int) - 48 by omega] at hq
              clear HV hgt
              generalize hyyy : t[k].toNat = y at *
              obtain ⟨Q, hQ⟩ : ∃ Q : Nat, Q = (9223372036854775808 - (y - 48)) / 10 := ⟨_, rfl⟩
              rw [← hQ] at hq
              have hw : wrap64 (-(Q : Int)) = -(Q : Int) := by unfold wrap64; omega
              have hc1 : ¬ -(N : Int) < -(Q : Int) := by omega
              go_wp2_with (go_at_call 54; refine hdig.mono ?_; clear hdig; rintro e w2 ⟨rfl, hw2⟩; have hw2 := hw2.symm; subst hw2)
              go_round
              case rel => exact ⟨k + 1, N * 10 + (y - 48), by omega, by omega, by go_num, by congr 1; omega, by omega, HV2.out.symm⟩
              case measure => simp [intOf]; omega
        · have hR := HN.out (fun v _ => no_digit HC.out (k := k) (by omega) (by rw [hgt]; exact hd) v)
          obtain ⟨rfl, rfl⟩ := hR
          have hdig := refDigit_no (b := (t[k].toNat : Int)) w (by omega)
          clear HV hgt
          generalize hyyy : t[k].toNat = y at *
          go_wp2_with (go_at_call 54; refine hdig.mono ?_; clear hdig; rintro e w2 ⟨rfl, hw2⟩; have hw2 := hw2.symm; subst hw2)
          go_ret2
          exact ⟨rfl, Below.refl _ _⟩
      · obtain rfl : k = t.size := by omega
        have hV := HV.out
        rw [List.take_of_length_le (Nat.le_of_eq hlen)] at hV
        clear HV
        have hin : inI (-(N : Int)) := by unfold inI; omega
        by_cases heq : s = ⟨(Lib.itoa (-(N : Int))).toArray⟩
        · obtain ⟨rfl, rfl⟩ := HY.out _ hin heq
          have hit := HTL.out _ hin w
          rw [← heq] at hit
          clear heq hV
          go_wp2_with (go_at_call 24; refine hit.mono ?_; clear hit; rintro e w2 ⟨rfl, hb2⟩; have HB2 : Hid (Below w.heap.size w w2) := hb2; clear hb2)
          go_ret2
          exact ⟨rfl, HB2.out⟩
        · have hR := HN.out (fun v _ => no_other HC.out (n := -(N : Int)) (by rw [hV]; rfl) heq v)
          obtain ⟨rfl, rfl⟩ := hR
          have hit := HTL.out _ hin w
          have hne : ((⟨(Lib.itoa (-(N : Int))).toArray⟩ : ByteArray).toList == s.toList) = false := ne_list (fun e => heq e.symm)
          clear heq hV
          generalize (⟨(Lib.itoa (-(N : Int))).toArray⟩ : ByteArray) = IS at *
          go_wp2_with (go_at_call 24; refine hit.mono ?_; clear hit; rintro e w2 ⟨rfl, hb2⟩; have HB2 : Hid (Below w.heap.size w w2) := hb2; clear hb2)
          go_ret2
          exact ⟨rfl, HB2.out⟩
end Go.Proofs.YtmlcilalmhpmiaaDoor
