/- The statement's own less. -/
import Derived.Test.YtinfnkhghmcelaaDoorMIc
import Derived.Test.YtinfnkhghmcelaaDoorMHj
namespace Go.Proofs.YtinfnkhghmcelaaDoor
open Go.RowKit Go.Maps

theorem val_rep (m : Nat) : valT (List.replicate m 48) = 0 := by
  induction m with
  | zero => rfl
  | succ m ih => rw [List.replicate_succ, valT_cons, ih]; simp
theorem val_nines (m : Nat) : valT (List.replicate m 57) + 1 = 10 ^ m := by
  induction m with
  | zero => rfl
  | succ m ih =>
    rw [List.replicate_succ, valT_cons, List.length_replicate, Nat.add_assoc, ih, Nat.pow_succ]
    show 9 * 10 ^ m + 10 ^ m = _
    omega
/-- One less. -/
theorem less_val {A : List UInt8} {b : UInt8} {z : Nat} (hb : 48 < b.toNat) : valT (A ++ UInt8.ofNat (b.toNat - 1) :: List.replicate z 57) + 1 = valT (A ++ b :: List.replicate z 48) := by
  have hl : b.toNat < 256 := b.toNat_lt
  have e : (UInt8.ofNat (b.toNat - 1)).toNat = b.toNat - 1 := by rw [UInt8.toNat_ofNat']; omega
  rw [valT_append, valT_append, valT_cons, valT_cons, val_rep, List.length_cons, List.length_cons, List.length_replicate, List.length_replicate, e, Nat.add_assoc, Nat.add_assoc, val_nines, Nat.add_zero]
  congr 1
  rw [show b.toNat - 48 = (b.toNat - 1 - 48) + 1 by omega, Nat.add_mul, Nat.one_mul, Nat.add_zero]

set_option maxRecDepth 100000 in
set_option maxHeartbeats 1000000 in
theorem less_any (T : List UInt8) (w : World) (hT : ∀ b ∈ T, isD b) (hl : T.length ≤ 1000) (hv : 0 < valT T) : Calls Tryd.prog 18 #[.string ⟨T.toArray⟩] w fun e w' => (∃ T' : List UInt8, e = .returned (.string ⟨T'.toArray⟩) ∧ (∀ b ∈ T', isD b) ∧ T'.length = T.length ∧ valT T' + 1 = valT T) ∧ Below w.heap.size w w' := by
  obtain ⟨s, hs⟩ : ∃ s : ByteArray, s = ⟨T.toArray⟩ := ⟨_, rfl⟩
  have hsT : s.data.toList = T := by rw [hs]
  have hss : s.size = T.length := by rw [hs]; simp [ByteArray.size]
  rw [← hs]
  have hcv := Lib.run_convert_string_bytes (P := Tryd.prog) w 9 44 5 s Tryd.underlying9 Tryd.underlying44 Tryd.underlying5
  obtain ⟨W1, hW1⟩ : ∃ W1, Lib.bytesWorld w 5 s = W1 := ⟨_, rfl⟩
  have hb1 : Below w.heap.size w W1 := by
    rw [← hW1]
    exact ⟨rfl, rfl, rfl, by rw [Lib.bytesWorld_size]; omega, fun j hj => Lib.bytesWorld_at_old w 5 s j hj⟩
  have hlen : s.data.toList.length = s.size := by simp
  have hblk : BlkAt W1 w.heap.size s.data.toList := fun j hj => by
    rw [← hW1]
    refine ⟨?_, ?_⟩
    · have e9 : s.data.toList.getD j 0 = s.data.toList[j] := by rw [List.getD_eq_getElem?_getD, List.getElem?_eq_getElem hj]; rfl
      rw [Lib.bytesWorld_cell w 5 s j (by omega), e9]
    · simp [World.frozen?, Lib.bytesWorld_at_new, Lib.bytesCells]
      simp at hj
      omega
  rw [hW1] at hcv
  obtain ⟨cap, hcap⟩ : ∃ cap, grownCap w s.size 0 5 = cap := ⟨_, rfl⟩
  rw [hcap] at hcv
  have hbk : ∀ (l : List UInt8) (W : World), l.length = s.size → BlkAt W w.heap.size l → (convert 44 9 (.slice (some ⟨w.heap.size, 0, none⟩) s.size cap)).run Tryd.prog W = .ok (.string ⟨l.toArray⟩) W := fun l W hl hB => by
    rw [← hl]
    refine run_convert_bytes_back (P := Tryd.prog) W 44 9 5 ⟨w.heap.size, 0, none⟩ cap l Tryd.underlying44 Tryd.underlying5 Tryd.underlying9 (fun j hj => ?_)
    rw [Addr.add_lit, Nat.zero_add]
    exact (hB j hj).1
  have HBK : Hid _ := hbk
  have HB1 : Hid (Below w.heap.size w W1) := hb1
  have HBL : Hid (BlkAt W1 w.heap.size T) := by rw [← hsT]; exact hblk
  have hcap2 : s.size ≤ cap := by rw [← hcap]; exact grownCap_ge w s.size 0 5
  have hcap3 : cap ≤ 9223372036854775807 := by
    have := grownCap_le_maxLen w s.size 0 5 (by unfold maxLen; omega)
    unfold maxLen at this
    omega
  have HT : Hid (∀ b ∈ T, isD b) := hT
  have HV : Hid (0 < valT T) := hv
  have hn : s.size ≤ 1000 := by omega
  have HSS : Hid (s.size = T.length) := hss
  have hn0 : 0 < s.size := by
    rw [hss]
    apply List.length_pos_iff.2
    intro e
    rw [e] at hv
    exact absurd hv (by decide)
  clear hbk hb1 hblk hW1 hcap hs hT hv hsT hlen hss hl
  go_enter Tryd.func18, Tryd.ntmps18
  go_wp2
  go_loopw [4] (fun jv wr => ∃ r : Nat, r ≤ s.size ∧ ((∃ q : Nat, r = q + 1 ∧ jv = .int .i64 q) ∨ (r = 0 ∧ jv = .int .i64 (-1))) ∧ Hid (BlkAt wr w.heap.size (T.take r ++ List.replicate (T.length - r) 57) ∧ T = T.take r ++ List.replicate (T.length - r) 48 ∧ Below w.heap.size w wr)) (fun jv _ => (intOf jv + 1).toNat)
  case atStart => exact ⟨s.size, Nat.le_refl _, Or.inl ⟨s.size - 1, by omega, by rw [show (s.size : Int) - 1 = ((s.size - 1 : Nat) : Int) by omega]⟩, by rw [HSS.out, Nat.sub_self, List.take_length]; simpa using HBL.out, by rw [HSS.out, Nat.sub_self, List.take_length]; simp, HB1.out⟩
  case round =>
    obtain ⟨r, hr, hj, HI⟩ := hrel
    clear HBL HB1
    rcases hj with ⟨q, rfl, rfl⟩ | ⟨rfl, rfl⟩
    · have hql : q < T.length := by rw [← HSS.out]; omega
      have hqi : (q : Int) < s.size := by omega
      obtain ⟨b, hb⟩ : ∃ b, b = T[q] := ⟨_, rfl⟩
      have hbd : isD b := by rw [hb]; exact HT.out _ (List.getElem_mem hql)
      obtain ⟨z, hz⟩ : ∃ z, T.length = q + 1 + z := ⟨T.length - (q + 1), by omega⟩
      obtain ⟨A, hA⟩ : ∃ A, A = T.take q := ⟨_, rfl⟩
      have hAl : A.length = q := by rw [hA, List.length_take]; omega
      have e1 : T.take (q + 1) = A ++ [b] := by rw [List.take_succ_eq_append_getElem hql, ← hA, ← hb]
      have hI1 := HI.out.1
      have hI2 := HI.out.2.1
      have e2 : T.length - (q + 1) = z := by omega
      rw [e1, e2, List.append_assoc, List.singleton_append] at hI1 hI2
      have hlen1 : (A ++ b :: List.replicate z 57).length = q + 1 + z := by simp [hAl]; omega
      have hcell := hI1 q (by rw [hlen1]; omega)
      have hel : (A ++ b :: List.replicate z 57)[q]'(by rw [hlen1]; omega) = b := by
        have h9 : (A ++ b :: List.replicate z 57)[q]? = some b := by
          rw [List.getElem?_append_right (by omega), hAl, Nat.sub_self]
          rfl
        exact (List.getElem?_eq_some_iff.1 h9).2
      rw [hel] at hcell
      obtain ⟨c0, f0⟩ := hcell
      have hset : ∀ u : UInt8, BlkAt (wr.setCell ⟨w.heap.size, q, none⟩ (.int .u8 u.toNat)) w.heap.size (A ++ u :: List.replicate z 57) := fun u => by
        have h9 := hI1.set q (by rw [hlen1]; omega) u
        have e3 : (A ++ b :: List.replicate z 57).set q u = A ++ u :: List.replicate z 57 := by
          rw [List.set_append_right _ _ (by omega), hAl, Nat.sub_self]
          rfl
        rw [e3] at h9
        exact h9
      have HBW : Hid (Below w.heap.size w wr) := HI.out.2.2
      have hbl : b.toNat < 256 := b.toNat_lt
      by_cases hgt : 48 < b.toNat
      · have hgi : (48 : Int) < (b.toNat : Int) := by omega
        have e4 : ((UInt8.ofNat (b.toNat - 1)).toNat : Int) = (b.toNat : Int) - 1 := by rw [UInt8.toNat_ofNat']; omega
        have hS := hset (UInt8.ofNat (b.toNat - 1))
        rw [e4] at hS
        have hcvb := HBK.out _ _ (by rw [HSS.out]; simp [hAl]; omega) hS
        have HRES : Hid ((∀ x ∈ A ++ UInt8.ofNat (b.toNat - 1) :: List.replicate z 57, isD x) ∧ (A ++ UInt8.ofNat (b.toNat - 1) :: List.replicate z 57).length = T.length ∧ valT (A ++ UInt8.ofNat (b.toNat - 1) :: List.replicate z 57) + 1 = valT T) := by
          refine ⟨fun x hx => ?_, by rw [hz]; simp [hAl]; omega, by rw [less_val hgt, ← hI2]⟩
          rcases List.mem_append.1 hx with h9 | h9
          · exact HT.out x (by rw [hA] at h9; exact List.mem_of_mem_take h9)
          · rcases List.mem_cons.1 h9 with h8 | h8
            · rw [h8]
              unfold isD at hbd ⊢
              omega
            · rw [List.eq_of_mem_replicate h8]
              unfold isD
              decide
        generalize A ++ UInt8.ofNat (b.toNat - 1) :: List.replicate z 57 = R at *
        clear hI1 hI2 hlen1 hel hset HI hA hAl e1 e2 hz hb hbd e4 hS HBK HT HV
        generalize b.toNat = y at *
        go_wp2
        go_ret
        exact ⟨⟨R, rfl, HRES.out.1, HRES.out.2.1, HRES.out.2.2⟩, HBW.out.setCell (p := ⟨w.heap.size, q, none⟩) (Nat.le_refl _) _⟩
      · have hgi : ¬ (48 : Int) < (b.toNat : Int) := by omega
        have h48 : b.toNat = 48 := by unfold isD at hbd; omega
        have hb48 : b = 48 := by
          apply UInt8.toNat_inj.1
          rw [h48]
          rfl
        have hS := hset 57
        have HN : Hid (BlkAt (wr.setCell ⟨w.heap.size, q, none⟩ (.int .u8 57)) w.heap.size (T.take q ++ List.replicate (T.length - q) 57) ∧ T = T.take q ++ List.replicate (T.length - q) 48 ∧ Below w.heap.size w (wr.setCell ⟨w.heap.size, q, none⟩ (.int .u8 57))) := by
          rw [show T.length - q = z + 1 by omega, List.replicate_succ, List.replicate_succ, ← hA]
          refine ⟨hS, ?_, HBW.out.setCell (p := ⟨w.heap.size, q, none⟩) (Nat.le_refl _) _⟩
          rw [hb48] at hI2
          exact hI2
        clear hI1 hI2 hlen1 hel hset HI hA hAl e1 e2 hz hb hbd hS hb48 HBW h48 hgt
        generalize b.toNat = y at *
        go_wp2
        go_roundw
        case rel =>
          refine ⟨q, by omega, ?_, HN.out⟩
          rcases Nat.eq_zero_or_pos q with h0 | h0
          · exact Or.inr ⟨h0, by rw [h0]; rfl⟩
          · exact Or.inl ⟨q - 1, by omega, by rw [show (q : Int) - 1 = ((q - 1 : Nat) : Int) by omega]⟩
        case measure => simp [intOf]
    · exfalso
      have h9 := HI.out.2.1
      rw [List.take_zero, List.nil_append, Nat.sub_zero] at h9
      have h8 := HV.out
      rw [h9, val_rep] at h8
      exact absurd h8 (by decide)
end Go.Proofs.YtinfnkhghmcelaaDoor
