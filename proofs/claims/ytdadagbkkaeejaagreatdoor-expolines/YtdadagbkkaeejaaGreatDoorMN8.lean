/- Reading numbers: signs, letters, exponents. -/
import Derived.Test.YtdadagbkkaeejaaGreatDoorMN7
import Derived.Lib.ConvBytes
import Derived.Laws.IdiomStrings
namespace Go.Proofs.YtdadagbkkaeejaaGreatDoor.Nu
open Go.RowKit Go.Maps

theorem size_toList (s : ByteArray) : s.toList.length = s.size := by rw [ByteArray.toList_eq]; simp
theorem not_nil {s : ByteArray} (h : 1 ≤ s.size) : ¬ s.toList = [] := fun e => by
  have := size_toList s
  rw [e] at this
  simp at this
  omega
theorem not_empty {s : ByteArray} (h : 1 ≤ s.size) : s.toList.isEmpty = false := by
  have := not_nil h
  cases hs : s.toList
  · exact absurd hs this
  · rfl
theorem is_nil {s : ByteArray} (h : s.size = 0) : s.toList = [] := List.eq_nil_of_length_eq_zero (by rw [size_toList, h])
theorem is_empty {s : ByteArray} (h : s.size = 0) : s.toList.isEmpty = true := by rw [is_nil h]; rfl

theorem isDigit_any (b : Int) (w : World) : Calls Tryz.prog 69 #[.int .u8 b] w fun e w' => e = .returned (.bool (decide (48 ≤ b ∧ b ≤ 57))) ∧ w' = w := by
  have key : ∀ R : Bool, R = decide (48 ≤ b ∧ b ≤ 57) → Calls Tryz.prog 69 #[.int .u8 b] w fun e w' => e = .returned (.bool R) ∧ w' = w := fun R hR => by
    have HR : Hid (R = decide (48 ≤ b ∧ b ≤ 57)) := hR
    clear hR
    by_cases h1 : 48 ≤ b
    · by_cases h2 : b ≤ 57
      · have e : R = true := by rw [HR.out]; simp; omega
        subst e
        clear HR
        go_enter Tryz.func69, Tryz.ntmps69
        go_wp2
        go_ret
        exact ⟨rfl, rfl⟩
      · have e : R = false := by rw [HR.out]; simp; omega
        subst e
        clear HR
        go_enter Tryz.func69, Tryz.ntmps69
        go_wp2
        go_ret
        exact ⟨rfl, rfl⟩
    · have e : R = false := by rw [HR.out]; simp; omega
      subst e
      clear HR
      go_enter Tryz.func69, Tryz.ntmps69
      go_wp2
      go_ret
      exact ⟨rfl, rfl⟩
  exact key _ rfl

def hdB (s : ByteArray) : Nat := if h : 0 < s.size then s[0].toNat else 0
def cutB (s : ByteArray) : ByteArray × Bool := if hdB s = 45 ∨ hdB s = 43 then (s.extract 1 s.size, decide (hdB s = 45)) else (s, false)

set_option maxRecDepth 100000 in
set_option maxHeartbeats 1000000 in
theorem cutSign_any (s : ByteArray) (w : World) (hs : s.size ≤ 1000000) : Calls Tryz.prog 53 #[.string s] w fun e w' => e = .returned (.tuple #[.string (cutB s).1, .bool (cutB s).2]) ∧ ∃ q, w' = w.drewN q := by
  by_cases h0 : 0 < s.size
  · have hh : hdB s = s[0].toNat := by unfold hdB; rw [dif_pos h0]
    have hn1 := not_nil (s := s) h0
    have hn2 := not_empty (s := s) h0
    by_cases h45 : s[0].toNat = 45
    · have HC : Hid (cutB s = (s.extract 1 s.size, true)) := by show _ = _; unfold cutB; rw [hh, h45]; simp
      clear hh
      go_enter Tryz.func53, Tryz.ntmps53
      go_wp2
      go_quiet (fail)
      go_wp2
      go_ret2
      exact ⟨by rw [HC.out]; rfl, _, rfl⟩
    · by_cases h43 : s[0].toNat = 43
      · have HC : Hid (cutB s = (s.extract 1 s.size, false)) := by show _ = _; unfold cutB; rw [hh, h43]; simp
        clear hh h45
        go_enter Tryz.func53, Tryz.ntmps53
        go_wp2
        go_quiet (fail)
        go_wp2
        go_ret2
        exact ⟨by rw [HC.out]; rfl, _, rfl⟩
      · have HC : Hid (cutB s = (s, false)) := by show _ = _; unfold cutB; rw [hh, if_neg (by omega)]
        have h45' : ((s[0].toNat : Int) == 45) = false := by simp; omega
        have h43' : ((s[0].toNat : Int) == 43) = false := by simp; omega
        clear hh h45 h43
        go_enter Tryz.func53, Tryz.ntmps53
        go_wp2
        go_ret2
        exact ⟨by rw [HC.out]; rfl, 0, rfl⟩
  · have hz : s.size = 0 := by omega
    have hn1 := is_nil hz
    have hn2 := is_empty hz
    have HC : Hid (cutB s = (s, false)) := by
      show _ = _
      unfold cutB hdB
      rw [dif_neg h0]
      simp
    clear h0 hz
    go_enter Tryz.func53, Tryz.ntmps53
    go_wp2
    go_ret2
    exact ⟨by rw [HC.out]; rfl, 0, rfl⟩

def low (b : UInt8) : UInt8 := if 65 ≤ b.toNat ∧ b.toNat ≤ 90 then UInt8.ofNat (b.toNat + 32) else b
/-- Bytes in a block of one's own, not frozen. -/
def BlkAt (w : World) (g : Nat) (l : List UInt8) : Prop := ∀ j (hj : j < l.length), w.cell? ⟨g, j, none⟩ = some (.int .u8 l[j].toNat) ∧ w.frozen? ⟨g, j, none⟩ = false
theorem BlkAt.set {w : World} {g : Nat} {l : List UInt8} (h : BlkAt w g l) (k : Nat) (_hk : k < l.length) (b : UInt8) : BlkAt (w.setCell ⟨g, k, none⟩ (.int .u8 b.toNat)) g (l.set k b) := fun j hj => by
  rw [List.length_set] at hj
  refine ⟨?_, by rw [World.frozen?_setCell]; exact (h j hj).2⟩
  by_cases e : k = j
  · subst e
    rw [World.cell?_setCell_same' _ _ _ (by rw [(h k hj).1]; rfl)]
    simp
  · have h8 : (⟨g, k, none⟩ : Addr) ≠ ⟨g, j, none⟩ := fun h9 => e (by injection h9)
    rw [World.cell?_setCell_other (h := h8) .., (h j hj).1, List.getElem_set_ne e]

set_option maxRecDepth 100000 in
set_option maxHeartbeats 1000000 in
theorem lower_any (s : ByteArray) (w : World) (hs : s.size ≤ 1000000) : Calls Tryz.prog 54 #[.string s] w fun e w' => e = .returned (.string ⟨(s.data.toList.map low).toArray⟩) ∧ Below w.heap.size w w' := by
  have hcv := Lib.run_convert_string_bytes (P := Tryz.prog) w 9 22 5 s Tryz.underlying9 Tryz.underlying22 Tryz.underlying5
  obtain ⟨W1, hW1⟩ : ∃ W1, Lib.bytesWorld w 5 s = W1 := ⟨_, rfl⟩
  have hsz1 : W1.heap.size = w.heap.size + 1 := by rw [← hW1]; exact Lib.bytesWorld_size w 5 s
  have hb1 : Below w.heap.size w W1 := by
    rw [← hW1]
    exact ⟨rfl, rfl, rfl, by rw [Lib.bytesWorld_size]; omega, fun j hj => Lib.bytesWorld_at_old w 5 s j hj⟩
  have hlen : s.data.toList.length = s.size := by simp
  have hblk : BlkAt W1 w.heap.size s.data.toList := fun j hj => by
    rw [← hW1]
    refine ⟨?_, ?_⟩
    · have e9 : s.data.toList.getD j 0 = s.data.toList[j] := by rw [List.getD_eq_getElem?_getD, List.getElem?_eq_getElem hj]; rfl
      rw [Lib.bytesWorld_cell w 5 s j (by omega), e9]
    · simp [World.frozen?, Lib.bytesWorld_at_new, Lib.bytesCells]
      simp at hj
      omega
  rw [hW1] at hcv
  obtain ⟨cap, hcap⟩ : ∃ cap, grownCap w s.size 0 5 = cap := ⟨_, rfl⟩
  rw [hcap] at hcv
  have hbk : ∀ (l : List UInt8) (W : World), l.length = s.size → BlkAt W w.heap.size l → (convert 22 9 (.slice (some ⟨w.heap.size, 0, none⟩) s.size cap)).run Tryz.prog W = .ok (.string ⟨l.toArray⟩) W := fun l W hl hB => by
    rw [← hl]
    refine run_convert_bytes_back (P := Tryz.prog) W 22 9 5 ⟨w.heap.size, 0, none⟩ cap l Tryz.underlying22 Tryz.underlying5 Tryz.underlying9 (fun j hj => ?_)
    rw [Addr.add_lit, Nat.zero_add]
    exact (hB j hj).1
  have HBK : Hid _ := hbk
  have HB1 : Hid (Below w.heap.size w W1) := hb1
  have HBL : Hid (BlkAt W1 w.heap.size s.data.toList) := hblk
  have hcap2 : s.size ≤ cap := by rw [← hcap]; exact grownCap_ge w s.size 0 5
  have hcap3 : cap ≤ 9223372036854775807 := by
    have := grownCap_le_maxLen w s.size 0 5 (by unfold maxLen; omega)
    unfold maxLen at this
    omega
  obtain ⟨l, hl⟩ : ∃ l, l = s.data.toList := ⟨_, rfl⟩
  rw [← hl] at hlen HBL ⊢
  clear hl hbk hb1 hblk hW1 hcap
  have HLEN : Hid (l.length = s.size) := hlen
  clear hlen
  go_enter Tryz.func54, Tryz.ntmps54
  go_wp2
  go_loopw [10] (fun i wr => ∃ k : Nat, k ≤ s.size ∧ i = .int .i64 k ∧ Hid (BlkAt wr w.heap.size ((l.take k).map low ++ l.drop k) ∧ Below w.heap.size w wr)) (fun i _ => s.size - (intOf i).toNat)
  case atStart => exact ⟨0, Nat.zero_le _, rfl, by simpa using HBL.out, HB1.out⟩
  case round =>
    obtain ⟨k, hk, rfl, hI⟩ := hrel
    obtain ⟨hB, hW⟩ := hI.out
    have hll := HLEN.out
    by_cases hlt : k < s.size
    · obtain ⟨b, hb⟩ : ∃ b, b = l[k] := ⟨_, rfl⟩
      have hcur : ((l.take k).map low ++ l.drop k).length = s.size := by simp; omega
      have hel : ((l.take k).map low ++ l.drop k)[k]'(by omega) = b := by
        have h9 : ((l.take k).map low ++ l.drop k)[k]? = some b := by
          have e3 : ((l.take k).map low).length = k := by simp; omega
          rw [List.getElem?_append_right (by omega), e3, Nat.sub_self, List.getElem?_drop, Nat.add_zero, List.getElem?_eq_getElem (by omega), hb]
        exact (List.getElem?_eq_some_iff.1 h9).2
      have h1 := hB k (by omega)
      rw [hel] at h1
      obtain ⟨c0, f0⟩ := h1
      have hbl : b.toNat < 256 := b.toNat_lt
      have hnext : ∀ b' : UInt8, b' = low b → ((l.take k).map low ++ l.drop k).set k b' = (l.take (k + 1)).map low ++ l.drop (k + 1) := fun b' hb' => by
        have e1 : l.take (k + 1) = l.take k ++ [b] := by rw [hb, List.take_succ_eq_append_getElem (by omega)]
        have e2 : l.drop k = b :: l.drop (k + 1) := by rw [hb, List.getElem_cons_drop]
        have e3 : ((l.take k).map low).length = k := by simp; omega
        rw [e1, List.map_append, e2, List.set_append_right _ _ (by omega), e3, Nat.sub_self, hb']
        simp
      have HN : Hid (∀ b' : UInt8, b' = low b → BlkAt (wr.setCell ⟨w.heap.size, k, none⟩ (.int .u8 b'.toNat)) w.heap.size ((l.take (k + 1)).map low ++ l.drop (k + 1))) := fun b' hb' => by
        rw [← hnext b' hb']
        exact hB.set k (by omega) b'
      have HSame : Hid (low b = b → BlkAt wr w.heap.size ((l.take (k + 1)).map low ++ l.drop (k + 1))) := fun hb' => by
        rw [← hnext b hb'.symm]
        have e4 : ((l.take k).map low ++ l.drop k).set k b = (l.take k).map low ++ l.drop k := by
          conv => lhs; rw [← hel]
          exact List.set_getElem_self _
        rw [e4]
        exact hB
      have HW : Hid (Below w.heap.size w wr) := hW
      have HLO : Hid (low b = if 65 ≤ b.toNat ∧ b.toNat ≤ 90 then UInt8.ofNat (b.toNat + 32) else b) := rfl
      clear hI hB hW hb hcur hel hnext hll
      by_cases hu : 65 ≤ b.toNat ∧ b.toNat ≤ 90
      · obtain ⟨hu1, hu2⟩ := hu
        have HN2 := HN.out (UInt8.ofNat (b.toNat + 32)) (by rw [HLO.out, if_pos ⟨hu1, hu2⟩])
        have e5 : ((UInt8.ofNat (b.toNat + 32)).toNat : Int) = (b.toNat : Int) - 65 + 97 := by rw [UInt8.toNat_ofNat']; omega
        rw [e5] at HN2
        have HN3 : Hid _ := HN2
        clear HN HN2 HSame HLO e5
        generalize b.toNat = y at *
        go_wp2
        go_roundw
        case rel => exact ⟨k + 1, by omega, by go_num, HN3.out, HW.out.setCell (p := ⟨w.heap.size, k, none⟩) (Nat.le_refl _) _⟩
        case measure => simp [intOf]; omega
      · have HN3 := HSame.out (by rw [HLO.out, if_neg hu])
        have HN4 : Hid _ := HN3
        clear HN HN3 HSame HLO
        generalize b.toNat = y at *
        rcases Nat.lt_or_ge y 65 with h65 | h65
        · clear hu
          go_wp2
          go_roundw
          case rel => exact ⟨k + 1, by omega, by go_num, HN4.out, HW.out⟩
          case measure => simp [intOf]; omega
        · have h90 : 90 < y := by omega
          clear hu
          go_wp2
          go_roundw
          case rel => exact ⟨k + 1, by omega, by go_num, HN4.out, HW.out⟩
          case measure => simp [intOf]; omega
    · obtain rfl : k = s.size := by omega
      have hfin : (l.take s.size).map low ++ l.drop s.size = l.map low := by
        rw [← hll, List.take_length, List.drop_length, List.append_nil]
      rw [hfin] at hB
      have hcvb := HBK.out (l.map low) wr (by simpa using hll) hB
      have HW : Hid (Below w.heap.size w wr) := hW
      clear hI hB hW hll hfin
      go_wp2
      go_ret
      exact ⟨rfl, HW.out⟩

end Go.Proofs.YtdadagbkkaeejaaGreatDoor.Nu
