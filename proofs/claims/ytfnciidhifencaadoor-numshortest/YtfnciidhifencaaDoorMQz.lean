/- A text of digits one greater. -/
import Derived.Test.YtfnciidhifencaaDoorMQy
import Derived.Test.YtfnciidhifencaaDoorMEe
namespace Go.Proofs.YtfnciidhifencaaDoor
open Go.RowKit Go.Maps

theorem valT_zeros : ∀ m : Nat, valT (List.replicate m 48) = 0
  | 0 => rfl
  | m + 1 => by
    rw [List.replicate_succ, valT_cons, valT_zeros m]
    have : (48 : UInt8).toNat = 48 := rfl
    rw [this]
    simp
theorem zeros_isD (m : Nat) : ∀ b ∈ List.replicate m (48 : UInt8), isD b := fun b hb => by
  rw [List.eq_of_mem_replicate hb]
  unfold isD
  decide
/-- What is told of the text one greater. -/
def UpT (l u : List UInt8) : Prop := (∀ b ∈ u, isD b) ∧ valT u = valT l + 1 ∧ l.length ≤ u.length ∧ u.length ≤ l.length + 1

set_option maxRecDepth 100000 in
set_option maxHeartbeats 1000000 in
theorem times_any (l : List UInt8) (w : World) (hd : ∀ b ∈ l, isD b) (hs : l.length ≤ 1000) : Calls Tryd.prog 17 #[.string ⟨l.toArray⟩] w fun e w' => ∃ u, e = .returned (.string ⟨u.toArray⟩) ∧ UpT l u ∧ Below w.heap.size w w' := by
  obtain ⟨s, hsl⟩ : ∃ s : ByteArray, s = ⟨l.toArray⟩ := ⟨_, rfl⟩
  have hcv := Lib.run_convert_string_bytes (P := Tryd.prog) w 9 39 5 s Tryd.underlying9 Tryd.underlying39 Tryd.underlying5
  obtain ⟨W1, hW1⟩ : ∃ W1, Lib.bytesWorld w 5 s = W1 := ⟨_, rfl⟩
  have hb1 : Below w.heap.size w W1 := by
    rw [← hW1]
    exact ⟨rfl, rfl, rfl, by rw [Lib.bytesWorld_size]; omega, fun j hj => Lib.bytesWorld_at_old w 5 s j hj⟩
  have hdl : s.data.toList = l := by rw [hsl]
  have hsz : s.size = l.length := by rw [hsl]; simp [ByteArray.size]
  have hblk : BlkAt W1 w.heap.size l := fun j hj => by
    rw [← hW1]
    refine ⟨?_, ?_⟩
    · have e9 : s.data.toList.getD j 0 = l[j] := by rw [hdl, List.getD_eq_getElem?_getD, List.getElem?_eq_getElem hj]; rfl
      rw [Lib.bytesWorld_cell w 5 s j (by omega), e9]
    · simp [World.frozen?, Lib.bytesWorld_at_new, Lib.bytesCells]
      omega
  rw [hW1] at hcv
  obtain ⟨cap, hcap⟩ : ∃ cap, grownCap w s.size 0 5 = cap := ⟨_, rfl⟩
  rw [hcap, hsz, hsl] at hcv
  obtain ⟨n, hn⟩ : ∃ n, n = l.length := ⟨_, rfl⟩
  rw [← hn] at hcv
  have hbk : ∀ (u : List UInt8) (W : World), u.length = n → BlkAt W w.heap.size u → (convert 39 9 (.slice (some ⟨w.heap.size, 0, none⟩) n cap)).run Tryd.prog W = .ok (.string ⟨u.toArray⟩) W := fun u W hl hB => by
    rw [← hl]
    refine run_convert_bytes_back (P := Tryd.prog) W 39 9 5 ⟨w.heap.size, 0, none⟩ cap u Tryd.underlying39 Tryd.underlying5 Tryd.underlying9 (fun j hj => ?_)
    rw [Addr.add_lit, Nat.zero_add]
    exact (hB j hj).1
  have HBK : Hid _ := hbk
  have HB1 : Hid (Below w.heap.size w W1) := hb1
  have HBL : Hid (BlkAt W1 w.heap.size l) := hblk
  have hcap2 : n ≤ cap := by rw [← hcap, hn, ← hsz]; exact grownCap_ge w s.size 0 5
  have hcap3 : cap ≤ 9223372036854775807 := by
    have := grownCap_le_maxLen w s.size 0 5 (by unfold maxLen; omega)
    unfold maxLen at this
    omega
  have hn1 : n ≤ 1000 := by omega
  have HLEN : Hid (l.length = n) := hn.symm
  have HD : Hid (∀ b ∈ l, isD b) := hd
  clear hbk hb1 hblk hW1 hcap hsz hdl hn hd hs
  clear hsl s
  go_enter Tryd.func17, Tryd.ntmps17
  go_wp2
  go_loopw [4] (fun i wr => ∃ k : Nat, k ≤ n ∧ i = .int .i64 ((k : Int) - 1) ∧ Hid (BlkAt wr w.heap.size (l.take k ++ List.replicate (n - k) 48) ∧ Below w.heap.size w wr ∧ valT l + 1 = (valT (l.take k) + 1) * 10 ^ (n - k))) (fun i _ => (intOf i + 1).toNat)
  case atStart =>
    refine ⟨n, Nat.le_refl _, rfl, ?_, HB1.out, ?_⟩
    · rw [Nat.sub_self, ← HLEN.out, List.take_length]; simpa using HBL.out
    · rw [Nat.sub_self, ← HLEN.out, List.take_length]; simp
  case round =>
    obtain ⟨k, hk, rfl, hI⟩ := hrel
    obtain ⟨hB, hW, hV⟩ := hI.out
    have hll := HLEN.out
    cases k with
    | zero =>
      simp only [List.take_zero, List.nil_append, Nat.sub_zero] at hB hV
      have hcvb := HBK.out (List.replicate n 48) wr (by simp) hB
      have HW : Hid (Below w.heap.size w wr) := hW
      have HU : Hid (UpT l (49 :: List.replicate n 48)) := by
        refine ⟨fun b hb => ?_, ?_, by simp; omega, by simp; omega⟩
        · rcases List.mem_cons.1 hb with rfl | h9
          · unfold isD; decide
          · exact zeros_isD n b h9
        · rw [valT_cons, valT_zeros, List.length_replicate, hV]
          have : (49 : UInt8).toNat = 49 := rfl
          rw [this]
          simp [valT]
      have HA : Hid ((⟨#[49]⟩ : ByteArray) ++ ⟨(List.replicate n (48 : UInt8)).toArray⟩ = ⟨(49 :: List.replicate n 48).toArray⟩) := ba_app [49] _
      have hsz : (⟨(List.replicate n (48 : UInt8)).toArray⟩ : ByteArray).size = n := by simp [ByteArray.size]
      clear hI hB hW hll hV
      generalize List.replicate n (48 : UInt8) = Z at *
      rw [show ((0 : Nat) : Int) - 1 = -1 from rfl]
      go_wp2
      go_ret
      exact ⟨49 :: Z, by rw [HA.out]; rfl, HU.out, HW.out⟩
    | succ j =>
      have hjl : j < l.length := by omega
      obtain ⟨b, hb⟩ : ∃ b, b = l[j] := ⟨_, rfl⟩
      have hbD : isD b := HD.out b (by rw [hb]; exact List.getElem_mem _)
      have htk : l.take (j + 1) = l.take j ++ [b] := by rw [hb, List.take_succ_eq_append_getElem hjl]
      have hcur : (l.take (j + 1) ++ List.replicate (n - (j + 1)) 48).length = n := by simp; omega
      have hel : (l.take (j + 1) ++ List.replicate (n - (j + 1)) 48)[j]'(by omega) = b := by
        have h9 : (l.take (j + 1) ++ List.replicate (n - (j + 1)) 48)[j]? = some b := by
          rw [List.getElem?_append_left (by simp; omega), List.getElem?_take_of_lt (by omega), List.getElem?_eq_getElem hjl, hb]
        exact (List.getElem?_eq_some_iff.1 h9).2
      have h1 := hB j (by omega)
      rw [hel] at h1
      obtain ⟨c0, f0⟩ := h1
      have hset : ∀ b' : UInt8, (l.take (j + 1) ++ List.replicate (n - (j + 1)) 48).set j b' = l.take j ++ b' :: List.replicate (n - (j + 1)) 48 := fun b' => by
        have e3 : (l.take j).length = j := by simp; omega
        rw [htk, List.append_assoc, List.set_append_right _ _ (by omega), e3, Nat.sub_self]
        rfl
      have HS : Hid (∀ b' : UInt8, BlkAt (wr.setCell ⟨w.heap.size, j, none⟩ (.int .u8 b'.toNat)) w.heap.size (l.take j ++ b' :: List.replicate (n - (j + 1)) 48)) := fun b' => by
        rw [← hset b']
        exact hB.set j (by omega) b'
      have HW : Hid (Below w.heap.size w wr) := hW
      have hvt : valT (l.take (j + 1)) = valT (l.take j) * 10 + (b.toNat - 48) := by rw [htk, valT_append, valT_cons]; simp [valT]
      rw [hvt] at hV
      unfold isD at hbD
      have hj1 : ((j + 1 : Nat) : Int) - 1 = j := by omega
      rw [hj1]
      by_cases h9 : b.toNat < 57
      · have e5 : ((UInt8.ofNat (b.toNat + 1)).toNat : Int) = (b.toNat : Int) + 1 := by rw [UInt8.toNat_ofNat']; omega
        have hS := HS.out (UInt8.ofNat (b.toNat + 1))
        have hlen2 : (l.take j ++ UInt8.ofNat (b.toNat + 1) :: List.replicate (n - (j + 1)) 48).length = n := by simp; omega
        have hcvb := HBK.out _ _ hlen2 hS
        rw [e5] at hcvb
        have HU : Hid (UpT l (l.take j ++ UInt8.ofNat (b.toNat + 1) :: List.replicate (n - (j + 1)) 48)) := by
          refine ⟨fun x hx => ?_, ?_, by omega, by omega⟩
          · rcases List.mem_append.1 hx with h8 | h8
            · exact HD.out x (List.mem_of_mem_take h8)
            · rcases List.mem_cons.1 h8 with rfl | h7
              · unfold isD; omega
              · exact zeros_isD _ x h7
          · rw [valT_append, valT_cons, valT_zeros, List.length_cons, List.length_replicate, hV, Nat.pow_succ]
            have e6 : (UInt8.ofNat (b.toNat + 1)).toNat - 48 = b.toNat - 48 + 1 := by omega
            rw [e6, Nat.mul_comm (10 ^ _) 10, ← Nat.mul_assoc]
            generalize 10 ^ (n - (j + 1)) = P
            rw [Nat.add_zero, ← Nat.add_mul, Nat.add_assoc]
        generalize l.take j ++ UInt8.ofNat (b.toNat + 1) :: List.replicate (n - (j + 1)) 48 = u at *
        clear hI hB hW hV hvt hset hel hcur htk HS hS e5 hb hll hj1 hlen2
        generalize b.toNat = y at *
        go_wp2
        go_ret
        exact ⟨u, rfl, HU.out, HW.out.setCell (p := ⟨w.heap.size, j, none⟩) (Nat.le_refl _) _⟩
      · have e57 : b.toNat = 57 := by omega
        have hS : BlkAt (wr.setCell ⟨w.heap.size, j, none⟩ (.int .u8 48)) w.heap.size (l.take j ++ List.replicate (n - j) 48) := by
          have h7 := HS.out 48
          rw [show n - j = n - (j + 1) + 1 by omega, List.replicate_succ]
          exact h7
        have HS3 : Hid _ := hS
        have HV : Hid (valT l + 1 = (valT (l.take j) + 1) * 10 ^ (n - j)) := by
          show _ = _
          rw [hV, e57, show n - j = n - (j + 1) + 1 by omega, Nat.pow_succ, Nat.mul_comm (10 ^ _) 10, ← Nat.mul_assoc]
          congr 1
          omega
        rw [e57] at c0
        clear hI hB hW hV hvt hset hel hcur htk HS hS hb hll hj1 e57 h9 hbD
        go_wp2
        go_roundw
        case rel => exact ⟨j, by omega, by go_num, HS3.out, HW.out.setCell (p := ⟨w.heap.size, j, none⟩) (Nat.le_refl _) _, HV.out⟩
        case measure => simp [intOf]
end Go.Proofs.YtfnciidhifencaaDoor
