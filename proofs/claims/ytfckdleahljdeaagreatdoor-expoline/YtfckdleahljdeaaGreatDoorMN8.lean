/- Texts that belong together. -/
import Derived.Test.YtfckdleahljdeaaGreatDoorMN7
import Derived.Lib.ConvBytes
import Derived.Laws.IdiomStrings
import Derived.Laws.ResultCell
/- Reading numbers: signs, letters, exponents. -/
namespace Go.Proofs.YtfckdleahljdeaaGreatDoor.Nu
open Go.RowKit Go.Maps

theorem size_toList (s : ByteArray) : s.toList.length = s.size := by rw [ByteArray.toList_eq]; simp
theorem not_nil {s : ByteArray} (h : 1 ≤ s.size) : ¬ s.toList = [] := fun e => by
  have := size_toList s
  rw [e] at this
  simp at this
  omega
theorem not_empty {s : ByteArray} (h : 1 ≤ s.size) : s.toList.isEmpty = false := by
  have := not_nil h
  cases hs : s.toList
  · exact absurd hs this
  · rfl
theorem is_nil {s : ByteArray} (h : s.size = 0) : s.toList = [] := List.eq_nil_of_length_eq_zero (by rw [size_toList, h])
theorem is_empty {s : ByteArray} (h : s.size = 0) : s.toList.isEmpty = true := by rw [is_nil h]; rfl

theorem isDigit_any (b : Int) (w : World) : Calls Tryz.prog 86 #[.int .u8 b] w fun e w' => e = .returned (.bool (decide (48 ≤ b ∧ b ≤ 57))) ∧ w' = w := by
  have key : ∀ R : Bool, R = decide (48 ≤ b ∧ b ≤ 57) → Calls Tryz.prog 86 #[.int .u8 b] w fun e w' => e = .returned (.bool R) ∧ w' = w := fun R hR => by
    have HR : Hid (R = decide (48 ≤ b ∧ b ≤ 57)) := hR
    clear hR
    by_cases h1 : 48 ≤ b
    · by_cases h2 : b ≤ 57
      · have e : R = true := by rw [HR.out]; simp; omega
        subst e
        clear HR
        go_enter Tryz.func86, Tryz.ntmps86
        go_wp2
        go_ret
        exact ⟨rfl, rfl⟩
      · have e : R = false := by rw [HR.out]; simp; omega
        subst e
        clear HR
        go_enter Tryz.func86, Tryz.ntmps86
        go_wp2
        go_ret
        exact ⟨rfl, rfl⟩
    · have e : R = false := by rw [HR.out]; simp; omega
      subst e
      clear HR
      go_enter Tryz.func86, Tryz.ntmps86
      go_wp2
      go_ret
      exact ⟨rfl, rfl⟩
  exact key _ rfl

def hdB (s : ByteArray) : Nat := if h : 0 < s.size then s[0].toNat else 0
def cutB (s : ByteArray) : ByteArray × Bool := if hdB s = 45 ∨ hdB s = 43 then (s.extract 1 s.size, decide (hdB s = 45)) else (s, false)

set_option maxRecDepth 100000 in
set_option maxHeartbeats 1000000 in
theorem cutSign_any (s : ByteArray) (w : World) (hs : s.size ≤ 1000000) : Calls Tryz.prog 57 #[.string s] w fun e w' => e = .returned (.tuple #[.string (cutB s).1, .bool (cutB s).2]) ∧ ∃ q, w' = w.drewN q := by
  by_cases h0 : 0 < s.size
  · have hh : hdB s = s[0].toNat := by unfold hdB; rw [dif_pos h0]
    have hn1 := not_nil (s := s) h0
    have hn2 := not_empty (s := s) h0
    by_cases h45 : s[0].toNat = 45
    · have HC : Hid (cutB s = (s.extract 1 s.size, true)) := by show _ = _; unfold cutB; rw [hh, h45]; simp
      clear hh
      go_enter Tryz.func57, Tryz.ntmps57
      go_wp2
      go_quiet (fail)
      go_wp2
      go_ret2
      exact ⟨by rw [HC.out]; rfl, _, rfl⟩
    · by_cases h43 : s[0].toNat = 43
      · have HC : Hid (cutB s = (s.extract 1 s.size, false)) := by show _ = _; unfold cutB; rw [hh, h43]; simp
        clear hh h45
        go_enter Tryz.func57, Tryz.ntmps57
        go_wp2
        go_quiet (fail)
        go_wp2
        go_ret2
        exact ⟨by rw [HC.out]; rfl, _, rfl⟩
      · have HC : Hid (cutB s = (s, false)) := by show _ = _; unfold cutB; rw [hh, if_neg (by omega)]
        have h45' : ((s[0].toNat : Int) == 45) = false := by simp; omega
        have h43' : ((s[0].toNat : Int) == 43) = false := by simp; omega
        clear hh h45 h43
        go_enter Tryz.func57, Tryz.ntmps57
        go_wp2
        go_ret2
        exact ⟨by rw [HC.out]; rfl, 0, rfl⟩
  · have hz : s.size = 0 := by omega
    have hn1 := is_nil hz
    have hn2 := is_empty hz
    have HC : Hid (cutB s = (s, false)) := by
      show _ = _
      unfold cutB hdB
      rw [dif_neg h0]
      simp
    clear h0 hz
    go_enter Tryz.func57, Tryz.ntmps57
    go_wp2
    go_ret2
    exact ⟨by rw [HC.out]; rfl, 0, rfl⟩

def low (b : UInt8) : UInt8 := if 65 ≤ b.toNat ∧ b.toNat ≤ 90 then UInt8.ofNat (b.toNat + 32) else b
/-- Bytes in a block of one's own, not frozen. -/
def BlkAt (w : World) (g : Nat) (l : List UInt8) : Prop := ∀ j (hj : j < l.length), w.cell? ⟨g, j, none⟩ = some (.int .u8 l[j].toNat) ∧ w.frozen? ⟨g, j, none⟩ = false
theorem BlkAt.set {w : World} {g : Nat} {l : List UInt8} (h : BlkAt w g l) (k : Nat) (_hk : k < l.length) (b : UInt8) : BlkAt (w.setCell ⟨g, k, none⟩ (.int .u8 b.toNat)) g (l.set k b) := fun j hj => by
  rw [List.length_set] at hj
  refine ⟨?_, by rw [World.frozen?_setCell]; exact (h j hj).2⟩
  by_cases e : k = j
  · subst e
    rw [World.cell?_setCell_same' _ _ _ (by rw [(h k hj).1]; rfl)]
    simp
  · have h8 : (⟨g, k, none⟩ : Addr) ≠ ⟨g, j, none⟩ := fun h9 => e (by injection h9)
    rw [World.cell?_setCell_other (h := h8) .., (h j hj).1, List.getElem_set_ne e]

set_option maxRecDepth 100000 in
set_option maxHeartbeats 1000000 in
theorem lower_any (s : ByteArray) (w : World) (hs : s.size ≤ 1000000) : Calls Tryz.prog 58 #[.string s] w fun e w' => e = .returned (.string ⟨(s.data.toList.map low).toArray⟩) ∧ Below w.heap.size w w' := by
  have hcv := Lib.run_convert_string_bytes (P := Tryz.prog) w 9 23 5 s Tryz.underlying9 Tryz.underlying23 Tryz.underlying5
  obtain ⟨W1, hW1⟩ : ∃ W1, Lib.bytesWorld w 5 s = W1 := ⟨_, rfl⟩
  have hsz1 : W1.heap.size = w.heap.size + 1 := by rw [← hW1]; exact Lib.bytesWorld_size w 5 s
  have hb1 : Below w.heap.size w W1 := by
    rw [← hW1]
    exact ⟨rfl, rfl, rfl, by rw [Lib.bytesWorld_size]; omega, fun j hj => Lib.bytesWorld_at_old w 5 s j hj⟩
  have hlen : s.data.toList.length = s.size := by simp
  have hblk : BlkAt W1 w.heap.size s.data.toList := fun j hj => by
    rw [← hW1]
    refine ⟨?_, ?_⟩
    · have e9 : s.data.toList.getD j 0 = s.data.toList[j] := by rw [List.getD_eq_getElem?_getD, List.getElem?_eq_getElem hj]; rfl
      rw [Lib.bytesWorld_cell w 5 s j (by omega), e9]
    · simp [World.frozen?, Lib.bytesWorld_at_new, Lib.bytesCells]
      simp at hj
      omega
  rw [hW1] at hcv
  obtain ⟨cap, hcap⟩ : ∃ cap, grownCap w s.size 0 5 = cap := ⟨_, rfl⟩
  rw [hcap] at hcv
  have hbk : ∀ (l : List UInt8) (W : World), l.length = s.size → BlkAt W w.heap.size l → (convert 23 9 (.slice (some ⟨w.heap.size, 0, none⟩) s.size cap)).run Tryz.prog W = .ok (.string ⟨l.toArray⟩) W := fun l W hl hB => by
    rw [← hl]
    refine run_convert_bytes_back (P := Tryz.prog) W 23 9 5 ⟨w.heap.size, 0, none⟩ cap l Tryz.underlying23 Tryz.underlying5 Tryz.underlying9 (fun j hj => ?_)
    rw [Addr.add_lit, Nat.zero_add]
    exact (hB j hj).1
  have HBK : Hid _ := hbk
  have HB1 : Hid (Below w.heap.size w W1) := hb1
  have HBL : Hid (BlkAt W1 w.heap.size s.data.toList) := hblk
  have hcap2 : s.size ≤ cap := by rw [← hcap]; exact grownCap_ge w s.size 0 5
  have hcap3 : cap ≤ 9223372036854775807 := by
    have := grownCap_le_maxLen w s.size 0 5 (by unfold maxLen; omega)
    unfold maxLen at this
    omega
  obtain ⟨l, hl⟩ : ∃ l, l = s.data.toList := ⟨_, rfl⟩
  rw [← hl] at hlen HBL ⊢
  clear hl hbk hb1 hblk hW1 hcap
  have HLEN : Hid (l.length = s.size) := hlen
  clear hlen
  go_enter Tryz.func58, Tryz.ntmps58
  go_wp2
  go_loopw [10] (fun i wr => ∃ k : Nat, k ≤ s.size ∧ i = .int .i64 k ∧ Hid (BlkAt wr w.heap.size ((l.take k).map low ++ l.drop k) ∧ Below w.heap.size w wr)) (fun i _ => s.size - (intOf i).toNat)
  case atStart => exact ⟨0, Nat.zero_le _, rfl, by simpa using HBL.out, HB1.out⟩
  case round =>
    obtain ⟨k, hk, rfl, hI⟩ := hrel
    obtain ⟨hB, hW⟩ := hI.out
    have hll := HLEN.out
    by_cases hlt : k < s.size
    · obtain ⟨b, hb⟩ : ∃ b, b = l[k] := ⟨_, rfl⟩
      have hcur : ((l.take k).map low ++ l.drop k).length = s.size := by simp; omega
      have hel : ((l.take k).map low ++ l.drop k)[k]'(by omega) = b := by
        have h9 : ((l.take k).map low ++ l.drop k)[k]? = some b := by
          have e3 : ((l.take k).map low).length = k := by simp; omega
          rw [List.getElem?_append_right (by omega), e3, Nat.sub_self, List.getElem?_drop, Nat.add_zero, List.getElem?_eq_getElem (by omega), hb]
        exact (List.getElem?_eq_some_iff.1 h9).2
      have h1 := hB k (by omega)
      rw [hel] at h1
      obtain ⟨c0, f0⟩ := h1
      have hbl : b.toNat < 256 := b.toNat_lt
      have hnext : ∀ b' : UInt8, b' = low b → ((l.take k).map low ++ l.drop k).set k b' = (l.take (k + 1)).map low ++ l.drop (k + 1) := fun b' hb' => by
        have e1 : l.take (k + 1) = l.take k ++ [b] := by rw [hb, List.take_succ_eq_append_getElem (by omega)]
        have e2 : l.drop k = b :: l.drop (k + 1) := by rw [hb, List.getElem_cons_drop]
        have e3 : ((l.take k).map low).length = k := by simp; omega
        rw [e1, List.map_append, e2, List.set_append_right _ _ (by omega), e3, Nat.sub_self, hb']
        simp
      have HN : Hid (∀ b' : UInt8, b' = low b → BlkAt (wr.setCell ⟨w.heap.size, k, none⟩ (.int .u8 b'.toNat)) w.heap.size ((l.take (k + 1)).map low ++ l.drop (k + 1))) := fun b' hb' => by
        rw [← hnext b' hb']
        exact hB.set k (by omega) b'
      have HSame : Hid (low b = b → BlkAt wr w.heap.size ((l.take (k + 1)).map low ++ l.drop (k + 1))) := fun hb' => by
        rw [← hnext b hb'.symm]
        have e4 : ((l.take k).map low ++ l.drop k).set k b = (l.take k).map low ++ l.drop k := by
          conv => lhs; rw [← hel]
          exact List.set_getElem_self _
        rw [e4]
        exact hB
      have HW : Hid (Below w.heap.size w wr) := hW
      have HLO : Hid (low b = if 65 ≤ b.toNat ∧ b.toNat ≤ 90 then UInt8.ofNat (b.toNat + 32) else b) := rfl
      clear hI hB hW hb hcur hel hnext hll
      by_cases hu : 65 ≤ b.toNat ∧ b.toNat ≤ 90
      · obtain ⟨hu1, hu2⟩ := hu
        have HN2 := HN.out (UInt8.ofNat (b.toNat + 32)) (by rw [HLO.out, if_pos ⟨hu1, hu2⟩])
        have e5 : ((UInt8.ofNat (b.toNat + 32)).toNat : Int) = (b.toNat : Int) - 65 + 97 := by rw [UInt8.toNat_ofNat']; omega
        rw [e5] at HN2
        have HN3 : Hid _ := HN2
        clear HN HN2 HSame HLO e5
        generalize b.toNat = y at *
        go_wp2
        go_roundw
        case rel => exact ⟨k + 1, by omega, by go_num, HN3.out, HW.out.setCell (p := ⟨w.heap.size, k, none⟩) (Nat.le_refl _) _⟩
        case measure => simp [intOf]; omega
      · have HN3 := HSame.out (by rw [HLO.out, if_neg hu])
        have HN4 : Hid _ := HN3
        clear HN HN3 HSame HLO
        generalize b.toNat = y at *
        rcases Nat.lt_or_ge y 65 with h65 | h65
        · clear hu
          go_wp2
          go_roundw
          case rel => exact ⟨k + 1, by omega, by go_num, HN4.out, HW.out⟩
          case measure => simp [intOf]; omega
        · have h90 : 90 < y := by omega
          clear hu
          go_wp2
          go_roundw
          case rel => exact ⟨k + 1, by omega, by go_num, HN4.out, HW.out⟩
          case measure => simp [intOf]; omega
    · obtain rfl : k = s.size := by omega
      have hfin : (l.take s.size).map low ++ l.drop s.size = l.map low := by
        rw [← hll, List.take_length, List.drop_length, List.append_nil]
      rw [hfin] at hB
      have hcvb := HBK.out (l.map low) wr (by simpa using hll) hB
      have HW : Hid (Below w.heap.size w wr) := hW
      clear hI hB hW hll hfin
      go_wp2
      go_ret
      exact ⟨rfl, HW.out⟩

end Go.Proofs.YtfckdleahljdeaaGreatDoor.Nu

/- Reading numbers: exponents, decimals. -/
namespace Go.Proofs.YtfckdleahljdeaaGreatDoor.Nu
open Go.RowKit Go.Maps

theorem drop_byte (t : ByteArray) (k : Nat) (h : k < t.size) : t.data.toList.drop k = t[k] :: t.data.toList.drop (k + 1) := by
  rw [List.drop_eq_getElem_cons (by simpa using h)]
  simp
  rfl
theorem isDigit_yes {b : Int} (w : World) (h1 : 48 ≤ b) (h2 : b ≤ 57) : Calls Tryz.prog 86 #[.int .u8 b] w fun e w' => e = .returned (.bool true) ∧ w' = w := by
  have := isDigit_any b w
  rw [show decide (48 ≤ b ∧ b ≤ 57) = true by simp; omega] at this
  exact this
theorem isDigit_no {b : Int} (w : World) (h : ¬ (48 ≤ b ∧ b ≤ 57)) : Calls Tryz.prog 86 #[.int .u8 b] w fun e w' => e = .returned (.bool false) ∧ w' = w := by
  have := isDigit_any b w
  rw [show decide (48 ≤ b ∧ b ≤ 57) = false by simp; omega] at this
  exact this

def expF : List UInt8 → Nat → Option Nat
  | [], n => some n
  | b :: t, n => if 48 ≤ b.toNat ∧ b.toNat ≤ 57 then expF t (min (n * 10 + (b.toNat - 48)) 1048576) else none
def expR (s : ByteArray) : Int × Bool :=
  if (cutB s).1.size = 0 then (0, false) else match expF (cutB s).1.data.toList 0 with
    | none => (0, false)
    | some n => (if (cutB s).2 then -(n : Int) else n, true)
theorem cutB_size (s : ByteArray) : (cutB s).1.size ≤ s.size := by
  unfold cutB
  split
  · simp
  · exact Nat.le_refl _

set_option maxRecDepth 100000 in
set_option maxHeartbeats 1000000 in
theorem readExponent_any (s : ByteArray) (w : World) (hs : s.size ≤ 1000000) : Calls Tryz.prog 87 #[.string s] w fun e w' => e = .returned (.tuple #[.int .i64 (expR s).1, .bool (expR s).2]) ∧ ∃ q, w' = w.drewN q := by
  have hcut := cutSign_any s w hs
  have hsz := cutB_size s
  have HE : Hid (expR s = if (cutB s).1.size = 0 then (0, false) else match expF (cutB s).1.data.toList 0 with
    | none => (0, false)
    | some n => (if (cutB s).2 then -(n : Int) else n, true)) := rfl
  generalize (cutB s).1 = t at *
  generalize (cutB s).2 = neg at *
  by_cases h0 : t.size = 0
  · have hn1 := is_nil h0
    have hn2 := is_empty h0
    rw [if_pos h0] at HE
    clear h0
    go_enter Tryz.func87, Tryz.ntmps87
    go_wp2_with (go_at_call 57; refine hcut.mono ?_; clear hcut; rintro e w1 ⟨rfl, q, rfl⟩)
    go_ret2
    exact ⟨by rw [HE.out]; rfl, q, rfl⟩
  · rw [if_neg h0] at HE
    have hn1 := not_nil (s := t) (by omega)
    have hn2 := not_empty (s := t) (by omega)
    go_enter Tryz.func87, Tryz.ntmps87
    go_wp2_with (go_at_call 57; refine hcut.mono ?_; clear hcut; rintro e w1 ⟨rfl, q, rfl⟩)
    go_loop [5, 16] (fun c i => ∃ k n : Nat, k ≤ t.size ∧ i = .int .i64 k ∧ c = .int .i64 n ∧ n ≤ 1048576 ∧ Hid (expF (t.data.toList.drop k) n = expF t.data.toList 0)) (fun _ i => t.size - (intOf i).toNat)
    case atStart => exact ⟨0, 0, Nat.zero_le _, rfl, rfl, by omega, rfl⟩
    case round =>
      obtain ⟨k, n, hk, rfl, rfl, hn, hF⟩ := hrel
      by_cases hlt : k < t.size
      · have hbl : t[k].toNat < 256 := t[k].toNat_lt
        by_cases hd : 48 ≤ t[k].toNat ∧ t[k].toNat ≤ 57
        · have HF2 : Hid (expF (t.data.toList.drop (k + 1)) (min (n * 10 + (t[k].toNat - 48)) 1048576) = expF t.data.toList 0) := by
            show _ = _
            rw [← hF.out, drop_byte t k hlt, expF, if_pos hd]
          obtain ⟨hd1, hd2⟩ := hd
          have hdig := isDigit_yes (b := (t[k].toNat : Int)) (w.drewN q) (by omega) (by omega)
          clear hF
          generalize hyy : t[k].toNat = y at *
          go_wp2_with (go_at_call 86; refine hdig.mono ?_; clear hdig; rintro e w2 ⟨rfl, hw2⟩; have hw2 := hw2.symm; subst hw2)
          go_round
          case rel => exact ⟨k + 1, min (n * 10 + (y - 48)) 1048576, by omega, by go_num, by congr 1; omega, by omega, HF2.out⟩
          case measure => simp [intOf]; omega
        · have HF2 : Hid (expF t.data.toList 0 = none) := by
            show _ = _
            rw [← hF.out, drop_byte t k hlt, expF, if_neg hd]
          have hdig := isDigit_no (b := (t[k].toNat : Int)) (w.drewN q) (by omega)
          clear hF
          rw [HF2.out] at HE
          go_wp2_with (go_at_call 86; refine hdig.mono ?_; clear hdig; rintro e w2 ⟨rfl, hw2⟩; have hw2 := hw2.symm; subst hw2)
          go_ret2
          exact ⟨by rw [HE.out]; rfl, q, rfl⟩
      · obtain rfl : k = t.size := by omega
        have h9 := hF.out
        rw [List.drop_of_length_le (by simp), expF] at h9
        rw [← h9] at HE
        clear hF h9
        cases neg
        · go_wp2
          go_ret2
          exact ⟨by rw [HE.out]; rfl, q, rfl⟩
        · go_wp2
          go_ret2
          exact ⟨by rw [HE.out]; rfl, q, rfl⟩

end Go.Proofs.YtfckdleahljdeaaGreatDoor.Nu

/- Reading numbers: decimals. -/
namespace Go.Proofs.YtfckdleahljdeaaGreatDoor.Nu
open Go.RowKit Go.Maps

def u8s (bs : List UInt8) : List Value := bs.map fun b => .int .u8 b.toNat
theorem u8s_append (a b : List UInt8) : u8s (a ++ b) = u8s a ++ u8s b := by simp [u8s]
theorem u8s_length (a : List UInt8) : (u8s a).length = a.length := by simp [u8s]
theorem infoU8 : (Tryz.prog.info? 5).map (fun i => (i.zero, i.size, i.bytes)) = some (some (.int .u8 0), 1, 1) := by kernel_rfl

def scanD : List UInt8 → List UInt8 → Int → Nat → Bool → List UInt8 × Int × Nat × List UInt8
  | [], ds, p, n, _ => (ds, p, n, [])
  | b :: t, ds, p, n, pt =>
    if 48 ≤ b.toNat ∧ b.toNat ≤ 57 then scanD t (if b.toNat ≠ 48 ∨ ds ≠ [] then ds ++ [UInt8.ofNat (b.toNat - 48)] else ds) (if pt then p - 1 else p) (n + 1) pt
    else if b.toNat = 46 ∧ pt = false then scanD t ds p n true
    else (ds, p, n, b :: t)
def decR (s : ByteArray) : Option (List UInt8 × Int) :=
  match scanD s.data.toList [] 0 0 false with
  | (ds, p, n, rest) => if n = 0 then none else match rest with
    | [] => some (ds, p)
    | b :: t => if b.toNat = 101 ∨ b.toNat = 69 then (if (expR ⟨t.toArray⟩).2 then some (ds, p + (expR ⟨t.toArray⟩).1) else none) else none

set_option maxRecDepth 100000 in
theorem res_dec (tmps : Array Value) (b : Nat) (ok : Bool) (hp : tmps.getD 2 undef = .pointer (some ⟨b, 0, none⟩)) (h3 : tmps.getD 3 undef = .bool ok) (W : World) (v0 v1 : Value) (hb : W.heap[b]? = some (.cells #[v0, v1] 93 (0, 0))) :
    (results Tryz.f60 tmps).run Tryz.prog W = .ok (.tuple #[.agg #[v0, v1], .bool ok]) W := by
  rw [results_cell_tmp Tryz.results60]
  have hp' : tmps[2]?.getD undef = .pointer (some ⟨b, 0, none⟩) := by simpa using hp
  have h3' : tmps[3]?.getD undef = .bool ok := by simpa using h3
  have hc0 : W.cell? ⟨b, 0, none⟩ = some v0 := by simp [World.cell?, hb]
  have hc1 : W.cell? ⟨b, 1, none⟩ = some v1 := by simp [World.cell?, hb]
  simp [hp', h3', go_sem, hc0, hc1]

end Go.Proofs.YtfckdleahljdeaaGreatDoor.Nu

/- Reading numbers: decimals, walked. -/
namespace Go.Proofs.YtfckdleahljdeaaGreatDoor.Nu
open Go.RowKit Go.Maps

/-- append of one byte. -/
theorem wpList_append_byte (w : World) {ops : Array Oper} {rest : List Oper} {o : Oper} {a : Act} {Q : Exit → Act → World → Prop} (hgd : o.guard = none) (s x : Operand)
    (ho : o.op = .call { callee := .builtin .append, args := #[s, x], argTypes := #[23, 23] }) (base : Nat) (ao : Option Addr) (n co : Nat) (es : List UInt8) (hs : a.eval s = .slice ao n co) (hrow : w.ownsRow base 5 1 (.slice ao n co) n (u8s es))
    (g : Nat) (y : Int) (hy0 : 0 ≤ y) (hy : y < 256) (hx : a.eval x = .slice (some ⟨g, 0, none⟩) 1 1) (hg : w.heap[g]? = some (.cells #[.int .u8 y] 5 (0, 0))) (hl : n ≤ 1000000) (hbase : base ≤ w.heap.size)
    (h : ∀ a' c' w', w'.ownsRow base 5 1 (.slice a' (n + 1) c') (n + 1) (u8s (es ++ [UInt8.ofNat y.toNat])) → w.grownBy w' (Value.slice ao n co).ownBlock → wpList Tryz.prog ops Q rest (a.put o.dst (.slice a' (n + 1) c')) w') : wpList Tryz.prog ops Q (o :: rest) a w := by
  obtain ⟨i0, hi0, hz0, hz1, hz2⟩ := info_parts infoU8
  refine wpList_append_own_at w hgd s x 23 ho base 5 i0 _ 1 1 Tryz.underlying23 hi0 hz0 hz1 hz2 rfl (by decide) (.slice ao n co) n (u8s es) hs hrow ⟨g, 0, none⟩ 1 1 [.int .u8 y] hx rfl (World.news_of_block (cs := #[.int .u8 y]) (t := 5) (fr := (0, 0)) hg) (by simp [Value.oneCell']) (by unfold maxLen; omega) (by omega) hbase ?_
  intro v1 w1 hr1 hg1 hnil1 hloc1
  obtain ⟨a1, c1, rfl⟩ := slice_of_row hr1
  refine h a1 c1 w1 ?_ hg1
  have hxx : ((UInt8.ofNat y.toNat).toNat : Int) = y := by rw [UInt8.toNat_ofNat']; omega
  have : u8s (es ++ [UInt8.ofNat y.toNat]) = u8s es ++ [.int .u8 y] := by rw [u8s_append]; simp only [u8s, List.map_cons, List.map_nil, hxx]
  rw [this]
  exact hr1
theorem dec_not_row {w : World} {b base n : Nat} {v v0 v1 : Value} {xs : List Value} (h : w.heap[b]? = some (.cells #[v0, v1] 93 (0, 0))) (hr : w.ownsRow base 5 1 v n xs) : some b ≠ v.ownBlock := fun e => by
  rcases hr.2 with ⟨rfl, _⟩ | ⟨g, cap, cur, rfl, _, hg, _⟩
  · cases e
  · obtain rfl : b = g := by simpa [Value.ownBlock] using e
    rw [h] at hg
    injection hg with h9
    injection h9 with _ h8
    exact absurd h8 (by decide)
theorem dec_cells {w : World} {b : Nat} {v0 v1 : Value} (h : w.heap[b]? = some (.cells #[v0, v1] 93 (0, 0))) : w.cell? ⟨b, 0, none⟩ = some v0 ∧ w.cell? ⟨b, 1, none⟩ = some v1 ∧ w.frozen? ⟨b, 0, none⟩ = false ∧ w.frozen? ⟨b, 1, none⟩ = false := by
  simp [World.cell?, World.frozen?, h]
theorem dec_set0 {w : World} {b : Nat} {v0 v1 : Value} (h : w.heap[b]? = some (.cells #[v0, v1] 93 (0, 0))) (u : Value) : (w.setCell ⟨b, 0, none⟩ u).heap[b]? = some (.cells #[u, v1] 93 (0, 0)) := by
  rw [heap_setCell_same h]; rfl
theorem dec_set1 {w : World} {b : Nat} {v0 v1 : Value} (h : w.heap[b]? = some (.cells #[v0, v1] 93 (0, 0))) (u : Value) : (w.setCell ⟨b, 1, none⟩ u).heap[b]? = some (.cells #[v0, u] 93 (0, 0)) := by
  rw [heap_setCell_same h]; rfl
/-- What a decimal under way comes to in memory. -/
structure DecAt (w W : World) (a : Option Addr) (c : Nat) (ds : List UInt8) (p : Int) : Prop where
  d : W.heap[w.heap.size + 1]? = some (.cells #[.slice a ds.length c, .int .i64 p] 93 (0, 0))
  r : W.heap[w.heap.size]? = some (.cells #[.slice none 0 0, .int .i64 0] 93 (0, 0))
  row : W.ownsRow w.heap.size 5 1 (.slice a ds.length c) ds.length (u8s ds)
  bel : Below w.heap.size w W
theorem DecAt.power {w W : World} {a : Option Addr} {c : Nat} {ds : List UInt8} {p : Int} (h : DecAt w W a c ds p) (p' : Int) : DecAt w (W.setCell ⟨w.heap.size + 1, 1, none⟩ (.int .i64 p')) a c ds p' where
  d := dec_set1 h.d _
  r := (Below.heap_setCell W ⟨w.heap.size + 1, 1, none⟩ _ _ (by show w.heap.size ≠ w.heap.size + 1; omega)).trans h.r
  row := by
    have hne := dec_not_row h.d h.row
    exact World.ownsRow.kept h.row ⟨rfl, rfl, rfl, by simp [World.setCell], fun k _ hk => Below.heap_setCell W ⟨w.heap.size + 1, 1, none⟩ _ k (fun e => hk (congrArg some e))⟩ (Or.inr fun e => hne e.symm)
  bel := h.bel.setCell (p := ⟨w.heap.size + 1, 1, none⟩) (by show w.heap.size ≤ w.heap.size + 1; omega) _
/-- A digit more. -/
theorem DecAt.digit {w W W1 : World} {a a' : Option Addr} {c c' : Nat} {ds ds' : List UInt8} {p : Int} {o : Obj} (h : DecAt w W a c ds p) (hr : W1.ownsRow w.heap.size 5 1 (.slice a' ds'.length c') ds'.length (u8s ds')) (hg : (W.alloc o).grownBy W1 (Value.slice a ds.length c).ownBlock) : (W1.heap[w.heap.size + 1]? = some (.cells #[.slice a ds.length c, .int .i64 p] 93 (0, 0))) ∧ DecAt w (W1.setCell ⟨w.heap.size + 1, 0, none⟩ (.slice a' ds'.length c')) a' c' ds' p := by
  have hlt1 : w.heap.size + 1 < W.heap.size := (Array.getElem?_eq_some_iff.1 h.d).1
  have hlt0 : w.heap.size < W.heap.size := by omega
  have ha := (World.ownsRow.alloc h.row o)
  have hd0 : (W.alloc o).heap[w.heap.size + 1]? = some (.cells #[.slice a ds.length c, .int .i64 p] 93 (0, 0)) := (Below.heap_alloc W o _ hlt1).trans h.d
  have hr0 : (W.alloc o).heap[w.heap.size]? = some (.cells #[.slice none 0 0, .int .i64 0] 93 (0, 0)) := (Below.heap_alloc W o _ hlt0).trans h.r
  have hd1 : W1.heap[w.heap.size + 1]? = some (.cells #[.slice a ds.length c, .int .i64 p] 93 (0, 0)) := (hg.block _ (by simp; omega) (dec_not_row hd0 ha)).trans hd0
  have hr1 : W1.heap[w.heap.size]? = some (.cells #[.slice none 0 0, .int .i64 0] 93 (0, 0)) := (hg.block _ (by simp; omega) (dec_not_row hr0 ha)).trans hr0
  refine ⟨hd1, dec_set0 hd1 _, (Below.heap_setCell W1 ⟨w.heap.size + 1, 0, none⟩ _ _ (by show w.heap.size ≠ w.heap.size + 1; omega)).trans hr1, ?_, ?_⟩
  · have hne := dec_not_row hd1 hr
    exact World.ownsRow.kept hr ⟨rfl, rfl, rfl, by simp [World.setCell], fun k _ hk => Below.heap_setCell W1 ⟨w.heap.size + 1, 0, none⟩ _ k (fun e => hk (congrArg some e))⟩ (Or.inr fun e => hne e.symm)
  · have hb := h.bel.size
    exact ((h.bel.alloc hb o).grown hg (by simp; omega) (fun j hj => (h.row.lt j hj).1)).setCell (p := ⟨w.heap.size + 1, 0, none⟩) (by show w.heap.size ≤ w.heap.size + 1; omega) _

theorem DecAt.drewN {w W : World} {a : Option Addr} {c : Nat} {ds : List UInt8} {p : Int} (h : DecAt w W a c ds p) (q : Nat) : DecAt w (W.drewN q) a c ds p := by
  have hb := below_drewN (Below.refl W.heap.size W) q
  exact ⟨(hb.block _ (Array.getElem?_eq_some_iff.1 h.d).1).trans h.d, (hb.block _ (Array.getElem?_eq_some_iff.1 h.r).1).trans h.r, row_below h.row hb, below_drewN h.bel q⟩
/-- What is handed back. -/
theorem DecAt.out {w W : World} {a : Option Addr} {c : Nat} {ds : List UInt8} {p : Int} (h : DecAt w W a c ds p) (v0 v1 : Value) :
    ((W.setCell ⟨w.heap.size, 0, none⟩ v0).setCell ⟨w.heap.size, 1, none⟩ v1).heap[w.heap.size]? = some (.cells #[v0, v1] 93 (0, 0)) ∧ ((W.setCell ⟨w.heap.size, 0, none⟩ v0).setCell ⟨w.heap.size, 1, none⟩ v1).ownsRow w.heap.size 5 1 (.slice a ds.length c) ds.length (u8s ds) ∧ Below w.heap.size w ((W.setCell ⟨w.heap.size, 0, none⟩ v0).setCell ⟨w.heap.size, 1, none⟩ v1) := by
  have h1 := dec_set0 h.r v0
  have hne := dec_not_row h.r h.row
  have hr1 : (W.setCell ⟨w.heap.size, 0, none⟩ v0).ownsRow w.heap.size 5 1 (.slice a ds.length c) ds.length (u8s ds) := World.ownsRow.kept h.row ⟨rfl, rfl, rfl, by simp [World.setCell], fun k _ hk => Below.heap_setCell W ⟨w.heap.size, 0, none⟩ _ k (fun e => hk (congrArg some e))⟩ (Or.inr fun e => hne e.symm)
  refine ⟨dec_set1 h1 v1, ?_, (h.bel.setCell (p := ⟨w.heap.size, 0, none⟩) (Nat.le_refl _) _).setCell (p := ⟨w.heap.size, 1, none⟩) (Nat.le_refl _) _⟩
  exact World.ownsRow.kept hr1 ⟨rfl, rfl, rfl, by simp [World.setCell], fun k _ hk => Below.heap_setCell _ ⟨w.heap.size, 1, none⟩ _ k (fun e => hk (congrArg some e))⟩ (Or.inr fun e => hne e.symm)
theorem expF_le : ∀ (l : List UInt8) (n m : Nat), n ≤ 1048576 → expF l n = some m → m ≤ 1048576
  | [], n, m, h, e => by simp [expF] at e; omega
  | b :: t, n, m, h, e => by
    unfold expF at e
    split at e
    · exact expF_le t _ m (by omega) e
    · cases e
theorem expR_le (s : ByteArray) : -1048576 ≤ (expR s).1 ∧ (expR s).1 ≤ 1048576 := by
  unfold expR
  split
  · simp
  · split
    · simp
    · rename_i m hm
      have := expF_le _ _ _ (by omega) hm
      simp only
      split <;> omega
theorem ext_drop (s : ByteArray) (k : Nat) : (⟨(s.data.toList.drop k).toArray⟩ : ByteArray) = s.extract k s.size := by
  apply WideShapes.bytes_inj
  rw [ByteArray.data_extract, Array.toList_extract]
  show s.data.toList.drop k = (s.data.toList.drop k).take (s.size - k)
  rw [List.take_of_length_le (by simp)]

end Go.Proofs.YtfckdleahljdeaaGreatDoor.Nu
