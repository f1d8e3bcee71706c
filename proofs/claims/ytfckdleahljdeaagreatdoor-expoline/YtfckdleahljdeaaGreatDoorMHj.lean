/- The document's small letters, exponents, signs. -/
import Derived.Test.YtfckdleahljdeaaGreatDoorMQs
import Derived.Test.YtfckdleahljdeaaGreatDoorMQn
import Derived.Test.YtfckdleahljdeaaGreatDoorMDd
namespace Go.Proofs.YtfckdleahljdeaaGreatDoor.Nu
open Go.RowKit Go.Maps

set_option maxRecDepth 100000 in
set_option maxHeartbeats 1000000 in
theorem refLower_any (s : ByteArray) (w : World) (hs : s.size ≤ 1000000) : Calls Tryz.prog 70 #[.string s] w fun e w' => e = .returned (.string ⟨(s.data.toList.map low).toArray⟩) ∧ Below w.heap.size w w' := by
  have hcv := Lib.run_convert_string_bytes (P := Tryz.prog) w 9 23 5 s Tryz.underlying9 Tryz.underlying23 Tryz.underlying5
  obtain ⟨W1, hW1⟩ : ∃ W1, Lib.bytesWorld w 5 s = W1 := ⟨_, rfl⟩
  have hsz1 : W1.heap.size = w.heap.size + 1 := by rw [← hW1]; exact Lib.bytesWorld_size w 5 s
  have hb1 : Below w.heap.size w W1 := by
    rw [← hW1]
    exact ⟨rfl, rfl, rfl, by rw [Lib.bytesWorld_size]; omega, fun j hj => Lib.bytesWorld_at_old w 5 s j hj⟩
  have hlen : s.data.toList.length = s.size := by simp
  have hblk : BlkAt W1 w.heap.size s.data.toList := fun j hj => by
    rw [← hW1]
    refine ⟨?_, ?_⟩
    · have e9 : s.data.toList.getD j 0 = s.data.toList[j] := by rw [List.getD_eq_getElem?_getD, List.getElem?_eq_getElem hj]; rfl
      rw [Lib.bytesWorld_cell w 5 s j (by omega), e9]
    · simp [World.frozen?, Lib.bytesWorld_at_new, Lib.bytesCells]
      simp at hj
      omega
  rw [hW1] at hcv
  obtain ⟨cap, hcap⟩ : ∃ cap, grownCap w s.size 0 5 = cap := ⟨_, rfl⟩
  rw [hcap] at hcv
  have hbk : ∀ (l : List UInt8) (W : World), l.length = s.size → BlkAt W w.heap.size l → (convert 23 9 (.slice (some ⟨w.heap.size, 0, none⟩) s.size cap)).run Tryz.prog W = .ok (.string ⟨l.toArray⟩) W := fun l W hl hB => by
    rw [← hl]
    refine run_convert_bytes_back (P := Tryz.prog) W 23 9 5 ⟨w.heap.size, 0, none⟩ cap l Tryz.underlying23 Tryz.underlying5 Tryz.underlying9 (fun j hj => ?_)
    rw [Addr.add_lit, Nat.zero_add]
    exact (hB j hj).1
  have HBK : Hid _ := hbk
  have HB1 : Hid (Below w.heap.size w W1) := hb1
  have HBL : Hid (BlkAt W1 w.heap.size s.data.toList) := hblk
  have hcap2 : s.size ≤ cap := by rw [← hcap]; exact grownCap_ge w s.size 0 5
  have hcap3 : cap ≤ 9223372036854775807 := by
    have := grownCap_le_maxLen w s.size 0 5 (by unfold maxLen; omega)
    unfold maxLen at this
    omega
  obtain ⟨l, hl⟩ : ∃ l, l = s.data.toList := ⟨_, rfl⟩
  rw [← hl] at hlen HBL ⊢
  clear hl hbk hb1 hblk hW1 hcap
  have HLEN : Hid (l.length = s.size) := hlen
  clear hlen
  go_enter Tryz.func70, Tryz.ntmps70
  go_wp2
  go_loopw [4] (fun i wr => ∃ k : Nat, k ≤ s.size ∧ i = .int .i64 k ∧ Hid (BlkAt wr w.heap.size ((l.take k).map low ++ l.drop k) ∧ Below w.heap.size w wr)) (fun i _ => s.size - (intOf i).toNat)
  case atStart => exact ⟨0, Nat.zero_le _, rfl, by simpa using HBL.out, HB1.out⟩
  case round =>
    obtain ⟨k, hk, rfl, hI⟩ := hrel
    obtain ⟨hB, hW⟩ := hI.out
    have hll := HLEN.out
    by_cases hlt : k < s.size
    · obtain ⟨b, hb⟩ : ∃ b, b = l[k] := ⟨_, rfl⟩
      have hcur : ((l.take k).map low ++ l.drop k).length = s.size := by simp; omega
      have hel : ((l.take k).map low ++ l.drop k)[k]'(by omega) = b := by
        have h9 : ((l.take k).map low ++ l.drop k)[k]? = some b := by
          have e3 : ((l.take k).map low).length = k := by simp; omega
          rw [List.getElem?_append_right (by omega), e3, Nat.sub_self, List.getElem?_drop, Nat.add_zero, List.getElem?_eq_getElem (by omega), hb]
        exact (List.getElem?_eq_some_iff.1 h9).2
      have h1 := hB k (by omega)
      rw [hel] at h1
      obtain ⟨c0, f0⟩ := h1
      have hbl : b.toNat < 256 := b.toNat_lt
      have hnext : ∀ b' : UInt8, b' = low b → ((l.take k).map low ++ l.drop k).set k b' = (l.take (k + 1)).map low ++ l.drop (k + 1) := fun b' hb' => by
        have e1 : l.take (k + 1) = l.take k ++ [b] := by rw [hb, List.take_succ_eq_append_getElem (by omega)]
        have e2 : l.drop k = b :: l.drop (k + 1) := by rw [hb, List.getElem_cons_drop]
        have e3 : ((l.take k).map low).length = k := by simp; omega
        rw [e1, List.map_append, e2, List.set_append_right _ _ (by omega), e3, Nat.sub_self, hb']
        simp
      have HN : Hid (∀ b' : UInt8, b' = low b → BlkAt (wr.setCell ⟨w.heap.size, k, none⟩ (.int .u8 b'.toNat)) w.heap.size ((l.take (k + 1)).map low ++ l.drop (k + 1))) := fun b' hb' => by
        rw [← hnext b' hb']
        exact hB.set k (by omega) b'
      have HSame : Hid (low b = b → BlkAt wr w.heap.size ((l.take (k + 1)).map low ++ l.drop (k + 1))) := fun hb' => by
        rw [← hnext b hb'.symm]
        have e4 : ((l.take k).map low ++ l.drop k).set k b = (l.take k).map low ++ l.drop k := by
          conv => lhs; rw [← hel]
          exact List.set_getElem_self _
        rw [e4]
        exact hB
      have HW : Hid (Below w.heap.size w wr) := hW
      have HLO : Hid (low b = if 65 ≤ b.toNat ∧ b.toNat ≤ 90 then UInt8.ofNat (b.toNat + 32) else b) := rfl
      clear hI hB hW hb hcur hel hnext hll
      by_cases hu : 65 ≤ b.toNat ∧ b.toNat ≤ 90
      · obtain ⟨hu1, hu2⟩ := hu
        have HN2 := HN.out (UInt8.ofNat (b.toNat + 32)) (by rw [HLO.out, if_pos ⟨hu1, hu2⟩])
        have e5 : ((UInt8.ofNat (b.toNat + 32)).toNat : Int) = (b.toNat : Int) + 32 := by rw [UInt8.toNat_ofNat']; omega
        rw [e5] at HN2
        have HN3 : Hid _ := HN2
        clear HN HN2 HSame HLO e5
        generalize b.toNat = y at *
        go_wp2
        go_roundw
        case rel => exact ⟨k + 1, by omega, by go_num, HN3.out, HW.out.setCell (p := ⟨w.heap.size, k, none⟩) (Nat.le_refl _) _⟩
        case measure => simp [intOf]; omega
      · have HN3 := HSame.out (by rw [HLO.out, if_neg hu])
        have HN4 : Hid _ := HN3
        clear HN HN3 HSame HLO
        generalize b.toNat = y at *
        rcases Nat.lt_or_ge y 65 with h65 | h65
        · clear hu
          go_wp2
          go_roundw
          case rel => exact ⟨k + 1, by omega, by go_num, HN4.out, HW.out⟩
          case measure => simp [intOf]; omega
        · have h90 : 90 < y := by omega
          clear hu
          go_wp2
          go_roundw
          case rel => exact ⟨k + 1, by omega, by go_num, HN4.out, HW.out⟩
          case measure => simp [intOf]; omega
    · obtain rfl : k = s.size := by omega
      have hfin : (l.take s.size).map low ++ l.drop s.size = l.map low := by
        rw [← hll, List.take_length, List.drop_length, List.append_nil]
      rw [hfin] at hB
      have hcvb := HBK.out (l.map low) wr (by simpa using hll) hB
      have HW : Hid (Below w.heap.size w wr) := hW
      clear hI hB hW hll hfin
      go_wp2
      go_ret
      exact ⟨rfl, HW.out⟩


/-- Digits, cut at some size. -/
def expQ : List UInt8 → Nat → Option Nat
  | [], n => some n
  | b :: t, n => if 48 ≤ b.toNat ∧ b.toNat ≤ 57 then expQ t (if n < 1000000 then n * 10 + (b.toNat - 48) else n) else none
def expD (t : ByteArray) : Int × Bool := match expQ (cutB t).1.data.toList 0 with
  | none => (0, false)
  | some n => (if (cutB t).2 then -(n : Int) else n, decide (0 < (cutB t).1.size))

set_option maxRecDepth 100000 in
set_option maxHeartbeats 1000000 in
theorem refExp_none (s r : ByteArray) (R : Int × Bool) (w : World) (hs : s.size ≤ 1000) (h0 : 0 < s.size) (he : s[0].toNat = 101 ∨ s[0].toNat = 69) (ht : s.extract 1 s.size = r) (hts : r.size ≤ 1000) (_hrs : r.size ≤ 1000) (hnone : ∀ h : 0 < r.size, r[0].toNat ≠ 43 ∧ r[0].toNat ≠ 45)
    (HR : Hid (R = match expQ r.data.toList 0 with
      | none => (0, false)
      | some n => ((n : Int), decide (0 < r.size)))) :
    Calls Tryz.prog 75 #[.string s] w fun e w' => e = .returned (.tuple #[.int .i64 R.1, .bool R.2]) ∧ w' = w := by
  have hbl0 : s[0].toNat < 256 := s[0].toNat_lt
  have h101 : s[0].toNat = 101 → ((s[0].toNat : Int) == 101) = true := fun h => by rw [h]; rfl
  rcases he with he | he
  · by_cases h0r : 0 < r.size
    · obtain ⟨n43, n45⟩ := hnone h0r
      have hb0 : r[0].toNat < 256 := r[0].toNat_lt
      have i43 : ((r[0].toNat : Int) == 43) = false := by rw [beq_eq_false_iff_ne]; omega
      have i45 : ((r[0].toNat : Int) == 45) = false := by rw [beq_eq_false_iff_ne]; omega
      have hri0 : (0 : Int) < r.size := by omega
      clear n43 n45 hnone h101
      go_enter Tryz.func75, Tryz.ntmps75
      go_wp2
      try rw [ht]
      go_loop [5, 6] (fun c i => ∃ k n : Nat, k ≤ r.size ∧ i = .int .i64 k ∧ c = .int .i64 n ∧ n ≤ 10000000 ∧ Hid (expQ (r.data.toList.drop k) n = expQ r.data.toList 0)) (fun _ i => r.size - (intOf i).toNat)
      case atStart => exact ⟨0, 0, Nat.zero_le _, rfl, rfl, by omega, rfl⟩
      case round =>
        obtain ⟨k, n, hk, rfl, rfl, hn, hF⟩ := hrel
        by_cases hlt : k < r.size
        · have hbl : r[k].toNat < 256 := r[k].toNat_lt
          by_cases hd : 48 ≤ r[k].toNat ∧ r[k].toNat ≤ 57
          · have HF2 : Hid (expQ (r.data.toList.drop (k + 1)) (if n < 1000000 then n * 10 + (r[k].toNat - 48) else n) = expQ r.data.toList 0) := by
              show _ = _
              rw [← hF.out, drop_byte r k hlt, expQ, if_pos hd]
            obtain ⟨hd1, hd2⟩ := hd
            have hdig := refDigit_yes (b := (r[k].toNat : Int)) w (by omega) (by omega)
            clear hF
            generalize hyy : r[k].toNat = y at *
            by_cases hsm : n < 1000000
            · rw [if_pos hsm] at HF2
              have hsi : (n : Int) < 1000000 := by omega
              go_wp2_with (go_at_call 73; refine hdig.mono ?_; clear hdig; rintro e w2 ⟨rfl, hw2⟩; have hw2 := hw2.symm; subst hw2)
              go_round
              case rel => exact ⟨k + 1, n * 10 + (y - 48), by omega, by go_num, by congr 1; omega, by omega, HF2.out⟩
              case measure => simp [intOf]; omega
            · rw [if_neg hsm] at HF2
              have hsi : decide ((n : Int) < 1000000) = false := by rw [decide_eq_false_iff_not]; omega
              have hni : (n : Int) ≤ 10000000 := by omega
              have HNN : Hid (n ≤ 10000000) := hn
              clear hsm hn
              go_wp2_with (go_at_call 73; refine hdig.mono ?_; clear hdig; rintro e w2 ⟨rfl, hw2⟩; have hw2 := hw2.symm; subst hw2)
              go_round
              case rel => exact ⟨k + 1, n, by omega, by go_num, rfl, HNN.out, HF2.out⟩
              case measure => simp [intOf]; omega
          · have HF2 : Hid (expQ r.data.toList 0 = none) := by
              show _ = _
              rw [← hF.out, drop_byte r k hlt, expQ, if_neg hd]
            have hdig := refDigit_no (b := (r[k].toNat : Int)) w (by omega)
            clear hF
            rw [HF2.out] at HR
            generalize hyy : r[k].toNat = y at *
            clear hd
            go_wp2_with (go_at_call 73; refine hdig.mono ?_; clear hdig; rintro e w2 ⟨rfl, hw2⟩; have hw2 := hw2.symm; subst hw2)
            go_ret2
            exact ⟨by rw [HR.out]; rfl, rfl⟩
        · have h9 := hF.out
          rw [List.drop_of_length_le (by simp; omega), expQ] at h9
          rw [← h9] at HR
          have hki : ¬ (k : Int) < r.size := by omega
          clear hF h9
          by_cases hr0 : 0 < r.size
          · have hri : (0 : Int) < r.size := by omega
            rw [decide_eq_true hr0] at HR
            go_wp2
            go_ret2
            exact ⟨by rw [HR.out]; rfl, rfl⟩
          · exact absurd h0r hr0
    · have hri0 : ¬ (0 : Int) < r.size := by omega
      clear hnone h101
      go_enter Tryz.func75, Tryz.ntmps75
      go_wp2
      try rw [ht]
      go_loop [5, 6] (fun c i => ∃ k n : Nat, k ≤ r.size ∧ i = .int .i64 k ∧ c = .int .i64 n ∧ n ≤ 10000000 ∧ Hid (expQ (r.data.toList.drop k) n = expQ r.data.toList 0)) (fun _ i => r.size - (intOf i).toNat)
      case atStart => exact ⟨0, 0, Nat.zero_le _, rfl, rfl, by omega, rfl⟩
      case round =>
        obtain ⟨k, n, hk, rfl, rfl, hn, hF⟩ := hrel
        by_cases hlt : k < r.size
        · have hbl : r[k].toNat < 256 := r[k].toNat_lt
          by_cases hd : 48 ≤ r[k].toNat ∧ r[k].toNat ≤ 57
          · have HF2 : Hid (expQ (r.data.toList.drop (k + 1)) (if n < 1000000 then n * 10 + (r[k].toNat - 48) else n) = expQ r.data.toList 0) := by
              show _ = _
              rw [← hF.out, drop_byte r k hlt, expQ, if_pos hd]
            obtain ⟨hd1, hd2⟩ := hd
            have hdig := refDigit_yes (b := (r[k].toNat : Int)) w (by omega) (by omega)
            clear hF
            generalize hyy : r[k].toNat = y at *
            by_cases hsm : n < 1000000
            · rw [if_pos hsm] at HF2
              have hsi : (n : Int) < 1000000 := by omega
              go_wp2_with (go_at_call 73; refine hdig.mono ?_; clear hdig; rintro e w2 ⟨rfl, hw2⟩; have hw2 := hw2.symm; subst hw2)
              go_round
              case rel => exact ⟨k + 1, n * 10 + (y - 48), by omega, by go_num, by congr 1; omega, by omega, HF2.out⟩
              case measure => simp [intOf]; omega
            · rw [if_neg hsm] at HF2
              have hsi : decide ((n : Int) < 1000000) = false := by rw [decide_eq_false_iff_not]; omega
              have hni : (n : Int) ≤ 10000000 := by omega
              have HNN : Hid (n ≤ 10000000) := hn
              clear hsm hn
              go_wp2_with (go_at_call 73; refine hdig.mono ?_; clear hdig; rintro e w2 ⟨rfl, hw2⟩; have hw2 := hw2.symm; subst hw2)
              go_round
              case rel => exact ⟨k + 1, n, by omega, by go_num, rfl, HNN.out, HF2.out⟩
              case measure => simp [intOf]; omega
          · have HF2 : Hid (expQ r.data.toList 0 = none) := by
              show _ = _
              rw [← hF.out, drop_byte r k hlt, expQ, if_neg hd]
            have hdig := refDigit_no (b := (r[k].toNat : Int)) w (by omega)
            clear hF
            rw [HF2.out] at HR
            generalize hyy : r[k].toNat = y at *
            clear hd
            go_wp2_with (go_at_call 73; refine hdig.mono ?_; clear hdig; rintro e w2 ⟨rfl, hw2⟩; have hw2 := hw2.symm; subst hw2)
            go_ret2
            exact ⟨by rw [HR.out]; rfl, rfl⟩
        · have h9 := hF.out
          rw [List.drop_of_length_le (by simp; omega), expQ] at h9
          rw [← h9] at HR
          have hki : ¬ (k : Int) < r.size := by omega
          clear hF h9
          by_cases hr0 : 0 < r.size
          · exact absurd hr0 h0r
          · have hri : ¬ (0 : Int) < r.size := by omega
            rw [decide_eq_false hr0] at HR
            go_wp2
            go_ret2
            exact ⟨by rw [HR.out]; rfl, rfl⟩
  · by_cases h0r : 0 < r.size
    · obtain ⟨n43, n45⟩ := hnone h0r
      have hb0 : r[0].toNat < 256 := r[0].toNat_lt
      have i43 : ((r[0].toNat : Int) == 43) = false := by rw [beq_eq_false_iff_ne]; omega
      have i45 : ((r[0].toNat : Int) == 45) = false := by rw [beq_eq_false_iff_ne]; omega
      have hri0 : (0 : Int) < r.size := by omega
      clear n43 n45 hnone h101
      go_enter Tryz.func75, Tryz.ntmps75
      go_wp2
      try rw [ht]
      go_loop [5, 6] (fun c i => ∃ k n : Nat, k ≤ r.size ∧ i = .int .i64 k ∧ c = .int .i64 n ∧ n ≤ 10000000 ∧ Hid (expQ (r.data.toList.drop k) n = expQ r.data.toList 0)) (fun _ i => r.size - (intOf i).toNat)
      case atStart => exact ⟨0, 0, Nat.zero_le _, rfl, rfl, by omega, rfl⟩
      case round =>
        obtain ⟨k, n, hk, rfl, rfl, hn, hF⟩ := hrel
        by_cases hlt : k < r.size
        · have hbl : r[k].toNat < 256 := r[k].toNat_lt
          by_cases hd : 48 ≤ r[k].toNat ∧ r[k].toNat ≤ 57
          · have HF2 : Hid (expQ (r.data.toList.drop (k + 1)) (if n < 1000000 then n * 10 + (r[k].toNat - 48) else n) = expQ r.data.toList 0) := by
              show _ = _
              rw [← hF.out, drop_byte r k hlt, expQ, if_pos hd]
            obtain ⟨hd1, hd2⟩ := hd
            have hdig := refDigit_yes (b := (r[k].toNat : Int)) w (by omega) (by omega)
            clear hF
            generalize hyy : r[k].toNat = y at *
            by_cases hsm : n < 1000000
            · rw [if_pos hsm] at HF2
              have hsi : (n : Int) < 1000000 := by omega
              go_wp2_with (go_at_call 73; refine hdig.mono ?_; clear hdig; rintro e w2 ⟨rfl, hw2⟩; have hw2 := hw2.symm; subst hw2)
              go_round
              case rel => exact ⟨k + 1, n * 10 + (y - 48), by omega, by go_num, by congr 1; omega, by omega, HF2.out⟩
              case measure => simp [intOf]; omega
            · rw [if_neg hsm] at HF2
              have hsi : decide ((n : Int) < 1000000) = false := by rw [decide_eq_false_iff_not]; omega
              have hni : (n : Int) ≤ 10000000 := by omega
              have HNN : Hid (n ≤ 10000000) := hn
              clear hsm hn
              go_wp2_with (go_at_call 73; refine hdig.mono ?_; clear hdig; rintro e w2 ⟨rfl, hw2⟩; have hw2 := hw2.symm; subst hw2)
              go_round
              case rel => exact ⟨k + 1, n, by omega, by go_num, rfl, HNN.out, HF2.out⟩
              case measure => simp [intOf]; omega
          · have HF2 : Hid (expQ r.data.toList 0 = none) := by
              show _ = _
              rw [← hF.out, drop_byte r k hlt, expQ, if_neg hd]
            have hdig := refDigit_no (b := (r[k].toNat : Int)) w (by omega)
            clear hF
            rw [HF2.out] at HR
            generalize hyy : r[k].toNat = y at *
            clear hd
            go_wp2_with (go_at_call 73; refine hdig.mono ?_; clear hdig; rintro e w2 ⟨rfl, hw2⟩; have hw2 := hw2.symm; subst hw2)
            go_ret2
            exact ⟨by rw [HR.out]; rfl, rfl⟩
        · have h9 := hF.out
          rw [List.drop_of_length_le (by simp; omega), expQ] at h9
          rw [← h9] at HR
          have hki : ¬ (k : Int) < r.size := by omega
          clear hF h9
          by_cases hr0 : 0 < r.size
          · have hri : (0 : Int) < r.size := by omega
            rw [decide_eq_true hr0] at HR
            go_wp2
            go_ret2
            exact ⟨by rw [HR.out]; rfl, rfl⟩
          · exact absurd h0r hr0
    · have hri0 : ¬ (0 : Int) < r.size := by omega
      clear hnone h101
      go_enter Tryz.func75, Tryz.ntmps75
      go_wp2
      try rw [ht]
      go_loop [5, 6] (fun c i => ∃ k n : Nat, k ≤ r.size ∧ i = .int .i64 k ∧ c = .int .i64 n ∧ n ≤ 10000000 ∧ Hid (expQ (r.data.toList.drop k) n = expQ r.data.toList 0)) (fun _ i => r.size - (intOf i).toNat)
      case atStart => exact ⟨0, 0, Nat.zero_le _, rfl, rfl, by omega, rfl⟩
      case round =>
        obtain ⟨k, n, hk, rfl, rfl, hn, hF⟩ := hrel
        by_cases hlt : k < r.size
        · have hbl : r[k].toNat < 256 := r[k].toNat_lt
          by_cases hd : 48 ≤ r[k].toNat ∧ r[k].toNat ≤ 57
          · have HF2 : Hid (expQ (r.data.toList.drop (k + 1)) (if n < 1000000 then n * 10 + (r[k].toNat - 48) else n) = expQ r.data.toList 0) := by
              show _ = _
              rw [← hF.out, drop_byte r k hlt, expQ, if_pos hd]
            obtain ⟨hd1, hd2⟩ := hd
            have hdig := refDigit_yes (b := (r[k].toNat : Int)) w (by omega) (by omega)
            clear hF
            generalize hyy : r[k].toNat = y at *
            by_cases hsm : n < 1000000
            · rw [if_pos hsm] at HF2
              have hsi : (n : Int) < 1000000 := by omega
              go_wp2_with (go_at_call 73; refine hdig.mono ?_; clear hdig; rintro e w2 ⟨rfl, hw2⟩; have hw2 := hw2.symm; subst hw2)
              go_round
              case rel => exact ⟨k + 1, n * 10 + (y - 48), by omega, by go_num, by congr 1; omega, by omega, HF2.out⟩
              case measure => simp [intOf]; omega
            · rw [if_neg hsm] at HF2
              have hsi : decide ((n : Int) < 1000000) = false := by rw [decide_eq_false_iff_not]; omega
              have hni : (n : Int) ≤ 10000000 := by omega
              have HNN : Hid (n ≤ 10000000) := hn
              clear hsm hn
              go_wp2_with (go_at_call 73; refine hdig.mono ?_; clear hdig; rintro e w2 ⟨rfl, hw2⟩; have hw2 := hw2.symm; subst hw2)
              go_round
              case rel => exact ⟨k + 1, n, by omega, by go_num, rfl, HNN.out, HF2.out⟩
              case measure => simp [intOf]; omega
          · have HF2 : Hid (expQ r.data.toList 0 = none) := by
              show _ = _
              rw [← hF.out, drop_byte r k hlt, expQ, if_neg hd]
            have hdig := refDigit_no (b := (r[k].toNat : Int)) w (by omega)
            clear hF
            rw [HF2.out] at HR
            generalize hyy : r[k].toNat = y at *
            clear hd
            go_wp2_with (go_at_call 73; refine hdig.mono ?_; clear hdig; rintro e w2 ⟨rfl, hw2⟩; have hw2 := hw2.symm; subst hw2)
            go_ret2
            exact ⟨by rw [HR.out]; rfl, rfl⟩
        · have h9 := hF.out
          rw [List.drop_of_length_le (by simp; omega), expQ] at h9
          rw [← h9] at HR
          have hki : ¬ (k : Int) < r.size := by omega
          clear hF h9
          by_cases hr0 : 0 < r.size
          · exact absurd hr0 h0r
          · have hri : ¬ (0 : Int) < r.size := by omega
            rw [decide_eq_false hr0] at HR
            go_wp2
            go_ret2
            exact ⟨by rw [HR.out]; rfl, rfl⟩
set_option maxRecDepth 100000 in
set_option maxHeartbeats 1000000 in
theorem refExp_minus (s t r : ByteArray) (R : Int × Bool) (w : World) (hs : s.size ≤ 1000) (h0 : 0 < s.size) (he : s[0].toNat = 101 ∨ s[0].toNat = 69) (ht : s.extract 1 s.size = t) (hts : t.size ≤ 1000) (hrs : r.size ≤ 1000) (h0t : 0 < t.size) (hsg : t[0].toNat = 45) (htr : t.extract 1 t.size = r)
    (HR : Hid (R = match expQ r.data.toList 0 with
      | none => (0, false)
      | some n => (-(n : Int), decide (0 < r.size)))) :
    Calls Tryz.prog 75 #[.string s] w fun e w' => e = .returned (.tuple #[.int .i64 R.1, .bool R.2]) ∧ w' = w := by
  have hbl0 : s[0].toNat < 256 := s[0].toNat_lt
  rcases he with he | he
  · have hti0 : (0 : Int) < t.size := by omega
    go_enter Tryz.func75, Tryz.ntmps75
    go_wp2
    try rw [ht]
    try rw [htr]
    go_loop [5, 6] (fun c i => ∃ k n : Nat, k ≤ r.size ∧ i = .int .i64 k ∧ c = .int .i64 n ∧ n ≤ 10000000 ∧ Hid (expQ (r.data.toList.drop k) n = expQ r.data.toList 0)) (fun _ i => r.size - (intOf i).toNat)
    case atStart => exact ⟨0, 0, Nat.zero_le _, rfl, rfl, by omega, rfl⟩
    case round =>
      obtain ⟨k, n, hk, rfl, rfl, hn, hF⟩ := hrel
      by_cases hlt : k < r.size
      · have hbl : r[k].toNat < 256 := r[k].toNat_lt
        by_cases hd : 48 ≤ r[k].toNat ∧ r[k].toNat ≤ 57
        · have HF2 : Hid (expQ (r.data.toList.drop (k + 1)) (if n < 1000000 then n * 10 + (r[k].toNat - 48) else n) = expQ r.data.toList 0) := by
            show _ = _
            rw [← hF.out, drop_byte r k hlt, expQ, if_pos hd]
          obtain ⟨hd1, hd2⟩ := hd
          have hdig := refDigit_yes (b := (r[k].toNat : Int)) w (by omega) (by omega)
          clear hF
          generalize hyy : r[k].toNat = y at *
          by_cases hsm : n < 1000000
          · rw [if_pos hsm] at HF2
            have hsi : (n : Int) < 1000000 := by omega
            go_wp2_with (go_at_call 73; refine hdig.mono ?_; clear hdig; rintro e w2 ⟨rfl, hw2⟩; have hw2 := hw2.symm; subst hw2)
            go_round
            case rel => exact ⟨k + 1, n * 10 + (y - 48), by omega, by go_num, by congr 1; omega, by omega, HF2.out⟩
            case measure => simp [intOf]; omega
          · rw [if_neg hsm] at HF2
            have hsi : decide ((n : Int) < 1000000) = false := by rw [decide_eq_false_iff_not]; omega
            have hni : (n : Int) ≤ 10000000 := by omega
            have HNN : Hid (n ≤ 10000000) := hn
            clear hsm hn
            go_wp2_with (go_at_call 73; refine hdig.mono ?_; clear hdig; rintro e w2 ⟨rfl, hw2⟩; have hw2 := hw2.symm; subst hw2)
            go_round
            case rel => exact ⟨k + 1, n, by omega, by go_num, rfl, HNN.out, HF2.out⟩
            case measure => simp [intOf]; omega
        · have HF2 : Hid (expQ r.data.toList 0 = none) := by
            show _ = _
            rw [← hF.out, drop_byte r k hlt, expQ, if_neg hd]
          have hdig := refDigit_no (b := (r[k].toNat : Int)) w (by omega)
          clear hF
          rw [HF2.out] at HR
          generalize hyy : r[k].toNat = y at *
          clear hd
          go_wp2_with (go_at_call 73; refine hdig.mono ?_; clear hdig; rintro e w2 ⟨rfl, hw2⟩; have hw2 := hw2.symm; subst hw2)
          go_ret2
          exact ⟨by rw [HR.out]; rfl, rfl⟩
      · have h9 := hF.out
        rw [List.drop_of_length_le (by simp; omega), expQ] at h9
        rw [← h9] at HR
        have hki : ¬ (k : Int) < r.size := by omega
        clear hF h9
        by_cases hr0 : 0 < r.size
        · have hri : (0 : Int) < r.size := by omega
          rw [decide_eq_true hr0] at HR
          go_wp2
          go_ret2
          exact ⟨by rw [HR.out]; rfl, rfl⟩
        · have hri : ¬ (0 : Int) < r.size := by omega
          rw [decide_eq_false hr0] at HR
          go_wp2
          go_ret2
          exact ⟨by rw [HR.out]; rfl, rfl⟩
  · have hti0 : (0 : Int) < t.size := by omega
    go_enter Tryz.func75, Tryz.ntmps75
    go_wp2
    try rw [ht]
    try rw [htr]
    go_loop [5, 6] (fun c i => ∃ k n : Nat, k ≤ r.size ∧ i = .int .i64 k ∧ c = .int .i64 n ∧ n ≤ 10000000 ∧ Hid (expQ (r.data.toList.drop k) n = expQ r.data.toList 0)) (fun _ i => r.size - (intOf i).toNat)
    case atStart => exact ⟨0, 0, Nat.zero_le _, rfl, rfl, by omega, rfl⟩
    case round =>
      obtain ⟨k, n, hk, rfl, rfl, hn, hF⟩ := hrel
      by_cases hlt : k < r.size
      · have hbl : r[k].toNat < 256 := r[k].toNat_lt
        by_cases hd : 48 ≤ r[k].toNat ∧ r[k].toNat ≤ 57
        · have HF2 : Hid (expQ (r.data.toList.drop (k + 1)) (if n < 1000000 then n * 10 + (r[k].toNat - 48) else n) = expQ r.data.toList 0) := by
            show _ = _
            rw [← hF.out, drop_byte r k hlt, expQ, if_pos hd]
          obtain ⟨hd1, hd2⟩ := hd
          have hdig := refDigit_yes (b := (r[k].toNat : Int)) w (by omega) (by omega)
          clear hF
          generalize hyy : r[k].toNat = y at *
          by_cases hsm : n < 1000000
          · rw [if_pos hsm] at HF2
            have hsi : (n : Int) < 1000000 := by omega
            go_wp2_with (go_at_call 73; refine hdig.mono ?_; clear hdig; rintro e w2 ⟨rfl, hw2⟩; have hw2 := hw2.symm; subst hw2)
            go_round
            case rel => exact ⟨k + 1, n * 10 + (y - 48), by omega, by go_num, by congr 1; omega, by omega, HF2.out⟩
            case measure => simp [intOf]; omega
          · rw [if_neg hsm] at HF2
            have hsi : decide ((n : Int) < 1000000) = false := by rw [decide_eq_false_iff_not]; omega
            have hni : (n : Int) ≤ 10000000 := by omega
            have HNN : Hid (n ≤ 10000000) := hn
            clear hsm hn
            go_wp2_with (go_at_call 73; refine hdig.mono ?_; clear hdig; rintro e w2 ⟨rfl, hw2⟩; have hw2 := hw2.symm; subst hw2)
            go_round
            case rel => exact ⟨k + 1, n, by omega, by go_num, rfl, HNN.out, HF2.out⟩
            case measure => simp [intOf]; omega
        · have HF2 : Hid (expQ r.data.toList 0 = none) := by
            show _ = _
            rw [← hF.out, drop_byte r k hlt, expQ, if_neg hd]
          have hdig := refDigit_no (b := (r[k].toNat : Int)) w (by omega)
          clear hF
          rw [HF2.out] at HR
          generalize hyy : r[k].toNat = y at *
          clear hd
          go_wp2_with (go_at_call 73; refine hdig.mono ?_; clear hdig; rintro e w2 ⟨rfl, hw2⟩; have hw2 := hw2.symm; subst hw2)
          go_ret2
          exact ⟨by rw [HR.out]; rfl, rfl⟩
      · have h9 := hF.out
        rw [List.drop_of_length_le (by simp; omega), expQ] at h9
        rw [← h9] at HR
        have hki : ¬ (k : Int) < r.size := by omega
        clear hF h9
        by_cases hr0 : 0 < r.size
        · have hri : (0 : Int) < r.size := by omega
          rw [decide_eq_true hr0] at HR
          go_wp2
          go_ret2
          exact ⟨by rw [HR.out]; rfl, rfl⟩
        · have hri : ¬ (0 : Int) < r.size := by omega
          rw [decide_eq_false hr0] at HR
          go_wp2
          go_ret2
          exact ⟨by rw [HR.out]; rfl, rfl⟩
set_option maxRecDepth 100000 in
set_option maxHeartbeats 1000000 in
theorem refExp_plus (s t r : ByteArray) (R : Int × Bool) (w : World) (hs : s.size ≤ 1000) (h0 : 0 < s.size) (he : s[0].toNat = 101 ∨ s[0].toNat = 69) (ht : s.extract 1 s.size = t) (hts : t.size ≤ 1000) (hrs : r.size ≤ 1000) (h0t : 0 < t.size) (hsg : t[0].toNat = 43) (htr : t.extract 1 t.size = r)
    (HR : Hid (R = match expQ r.data.toList 0 with
      | none => (0, false)
      | some n => ((n : Int), decide (0 < r.size)))) :
    Calls Tryz.prog 75 #[.string s] w fun e w' => e = .returned (.tuple #[.int .i64 R.1, .bool R.2]) ∧ w' = w := by
  have hbl0 : s[0].toNat < 256 := s[0].toNat_lt
  rcases he with he | he
  · have hti0 : (0 : Int) < t.size := by omega
    go_enter Tryz.func75, Tryz.ntmps75
    go_wp2
    try rw [ht]
    try rw [htr]
    go_loop [5, 6] (fun c i => ∃ k n : Nat, k ≤ r.size ∧ i = .int .i64 k ∧ c = .int .i64 n ∧ n ≤ 10000000 ∧ Hid (expQ (r.data.toList.drop k) n = expQ r.data.toList 0)) (fun _ i => r.size - (intOf i).toNat)
    case atStart => exact ⟨0, 0, Nat.zero_le _, rfl, rfl, by omega, rfl⟩
    case round =>
      obtain ⟨k, n, hk, rfl, rfl, hn, hF⟩ := hrel
      by_cases hlt : k < r.size
      · have hbl : r[k].toNat < 256 := r[k].toNat_lt
        by_cases hd : 48 ≤ r[k].toNat ∧ r[k].toNat ≤ 57
        · have HF2 : Hid (expQ (r.data.toList.drop (k + 1)) (if n < 1000000 then n * 10 + (r[k].toNat - 48) else n) = expQ r.data.toList 0) := by
            show _ = _
            rw [← hF.out, drop_byte r k hlt, expQ, if_pos hd]
          obtain ⟨hd1, hd2⟩ := hd
          have hdig := refDigit_yes (b := (r[k].toNat : Int)) w (by omega) (by omega)
          clear hF
          generalize hyy : r[k].toNat = y at *
          by_cases hsm : n < 1000000
          · rw [if_pos hsm] at HF2
            have hsi : (n : Int) < 1000000 := by omega
            go_wp2_with (go_at_call 73; refine hdig.mono ?_; clear hdig; rintro e w2 ⟨rfl, hw2⟩; have hw2 := hw2.symm; subst hw2)
            go_round
            case rel => exact ⟨k + 1, n * 10 + (y - 48), by omega, by go_num, by congr 1; omega, by omega, HF2.out⟩
            case measure => simp [intOf]; omega
          · rw [if_neg hsm] at HF2
            have hsi : decide ((n : Int) < 1000000) = false := by rw [decide_eq_false_iff_not]; omega
            have hni : (n : Int) ≤ 10000000 := by omega
            have HNN : Hid (n ≤ 10000000) := hn
            clear hsm hn
            go_wp2_with (go_at_call 73; refine hdig.mono ?_; clear hdig; rintro e w2 ⟨rfl, hw2⟩; have hw2 := hw2.symm; subst hw2)
            go_round
            case rel => exact ⟨k + 1, n, by omega, by go_num, rfl, HNN.out, HF2.out⟩
            case measure => simp [intOf]; omega
        · have HF2 : Hid (expQ r.data.toList 0 = none) := by
            show _ = _
            rw [← hF.out, drop_byte r k hlt, expQ, if_neg hd]
          have hdig := refDigit_no (b := (r[k].toNat : Int)) w (by omega)
          clear hF
          rw [HF2.out] at HR
          generalize hyy : r[k].toNat = y at *
          clear hd
          go_wp2_with (go_at_call 73; refine hdig.mono ?_; clear hdig; rintro e w2 ⟨rfl, hw2⟩; have hw2 := hw2.symm; subst hw2)
          go_ret2
          exact ⟨by rw [HR.out]; rfl, rfl⟩
      · have h9 := hF.out
        rw [List.drop_of_length_le (by simp; omega), expQ] at h9
        rw [← h9] at HR
        have hki : ¬ (k : Int) < r.size := by omega
        clear hF h9
        by_cases hr0 : 0 < r.size
        · have hri : (0 : Int) < r.size := by omega
          rw [decide_eq_true hr0] at HR
          go_wp2
          go_ret2
          exact ⟨by rw [HR.out]; rfl, rfl⟩
        · have hri : ¬ (0 : Int) < r.size := by omega
          rw [decide_eq_false hr0] at HR
          go_wp2
          go_ret2
          exact ⟨by rw [HR.out]; rfl, rfl⟩
  · have hti0 : (0 : Int) < t.size := by omega
    go_enter Tryz.func75, Tryz.ntmps75
    go_wp2
    try rw [ht]
    try rw [htr]
    go_loop [5, 6] (fun c i => ∃ k n : Nat, k ≤ r.size ∧ i = .int .i64 k ∧ c = .int .i64 n ∧ n ≤ 10000000 ∧ Hid (expQ (r.data.toList.drop k) n = expQ r.data.toList 0)) (fun _ i => r.size - (intOf i).toNat)
    case atStart => exact ⟨0, 0, Nat.zero_le _, rfl, rfl, by omega, rfl⟩
    case round =>
      obtain ⟨k, n, hk, rfl, rfl, hn, hF⟩ := hrel
      by_cases hlt : k < r.size
      · have hbl : r[k].toNat < 256 := r[k].toNat_lt
        by_cases hd : 48 ≤ r[k].toNat ∧ r[k].toNat ≤ 57
        · have HF2 : Hid (expQ (r.data.toList.drop (k + 1)) (if n < 1000000 then n * 10 + (r[k].toNat - 48) else n) = expQ r.data.toList 0) := by
            show _ = _
            rw [← hF.out, drop_byte r k hlt, expQ, if_pos hd]
          obtain ⟨hd1, hd2⟩ := hd
          have hdig := refDigit_yes (b := (r[k].toNat : Int)) w (by omega) (by omega)
          clear hF
          generalize hyy : r[k].toNat = y at *
          by_cases hsm : n < 1000000
          · rw [if_pos hsm] at HF2
            have hsi : (n : Int) < 1000000 := by omega
            go_wp2_with (go_at_call 73; refine hdig.mono ?_; clear hdig; rintro e w2 ⟨rfl, hw2⟩; have hw2 := hw2.symm; subst hw2)
            go_round
            case rel => exact ⟨k + 1, n * 10 + (y - 48), by omega, by go_num, by congr 1; omega, by omega, HF2.out⟩
            case measure => simp [intOf]; omega
          · rw [if_neg hsm] at HF2
            have hsi : decide ((n : Int) < 1000000) = false := by rw [decide_eq_false_iff_not]; omega
            have hni : (n : Int) ≤ 10000000 := by omega
            have HNN : Hid (n ≤ 10000000) := hn
            clear hsm hn
            go_wp2_with (go_at_call 73; refine hdig.mono ?_; clear hdig; rintro e w2 ⟨rfl, hw2⟩; have hw2 := hw2.symm; subst hw2)
            go_round
            case rel => exact ⟨k + 1, n, by omega, by go_num, rfl, HNN.out, HF2.out⟩
            case measure => simp [intOf]; omega
        · have HF2 : Hid (expQ r.data.toList 0 = none) := by
            show _ = _
            rw [← hF.out, drop_byte r k hlt, expQ, if_neg hd]
          have hdig := refDigit_no (b := (r[k].toNat : Int)) w (by omega)
          clear hF
          rw [HF2.out] at HR
          generalize hyy : r[k].toNat = y at *
          clear hd
          go_wp2_with (go_at_call 73; refine hdig.mono ?_; clear hdig; rintro e w2 ⟨rfl, hw2⟩; have hw2 := hw2.symm; subst hw2)
          go_ret2
          exact ⟨by rw [HR.out]; rfl, rfl⟩
      · have h9 := hF.out
        rw [List.drop_of_length_le (by simp; omega), expQ] at h9
        rw [← h9] at HR
        have hki : ¬ (k : Int) < r.size := by omega
        clear hF h9
        by_cases hr0 : 0 < r.size
        · have hri : (0 : Int) < r.size := by omega
          rw [decide_eq_true hr0] at HR
          go_wp2
          go_ret2
          exact ⟨by rw [HR.out]; rfl, rfl⟩
        · have hri : ¬ (0 : Int) < r.size := by omega
          rw [decide_eq_false hr0] at HR
          go_wp2
          go_ret2
          exact ⟨by rw [HR.out]; rfl, rfl⟩
set_option maxRecDepth 100000 in
set_option maxHeartbeats 400000 in
theorem refExp_bad (s : ByteArray) (w : World) (_hs : s.size ≤ 1000) (h0 : 0 < s.size) (h1 : s[0].toNat ≠ 101) (h2 : s[0].toNat ≠ 69) : Calls Tryz.prog 75 #[.string s] w fun e w' => e = .returned (.tuple #[.int .i64 0, .bool false]) ∧ w' = w := by
  have hbl0 : s[0].toNat < 256 := s[0].toNat_lt
  have i1 : ((s[0].toNat : Int) == 101) = false := by rw [beq_eq_false_iff_ne]; omega
  have i2 : ((s[0].toNat : Int) == 69) = false := by rw [beq_eq_false_iff_ne]; omega
  have j1 : ((s[0].toNat : Int) != 101) = true := by rw [bne, i1]; rfl
  have j2 : ((s[0].toNat : Int) != 69) = true := by rw [bne, i2]; rfl
  clear h1 h2 i1 i2
  generalize hyy : s[0].toNat = y at *
  go_enter Tryz.func75, Tryz.ntmps75
  go_wp2
  go_ret2
  exact ⟨rfl, rfl⟩
end Go.Proofs.YtfckdleahljdeaaGreatDoor.Nu
