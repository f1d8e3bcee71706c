/- The document's bytes of a set. -/
import Derived.Test.YtobkomfeojhhbaaDoorBt
import Derived.Test.YtobkomfeojhhbaaDoorLw
import Derived.Test.YtobkomfeojhhbaaDoorLj
import Derived.Test.YtobkomfeojhhbaaDoorLk
import Derived.Deep.RegionHeld3
namespace Go.Proofs.YtobkomfeojhhbaaDoor
open Go.RowKit Go.Maps

set_option maxRecDepth 100000 in
set_option maxHeartbeats 1000000 in
theorem refTxt_any (base : Nat) (v : Value) (bs : List UInt8) (s : ByteArray) (w : World) (hr : Row w base v bs) (hl : bs.length ≤ 100000000) (hs : s.size ≤ 60000) (hb : base ≤ w.heap.size) :
    Calls Tryd.prog 59 #[v, .string s] w fun e w' => ∃ v', e = .returned v' ∧ Row w' base v' (bs ++ txt s) ∧ w.grownBy w' v.ownBlock := by
  obtain ⟨a, c, rfl⟩ := slice_of_row hr
  obtain ⟨i0, hi0, hz0, hz1, hz2⟩ := info_parts infoU8
  have HR : Hid (Row w base (.slice a bs.length c) bs) := hr
  clear hr
  go_enter Tryd.func59, Tryd.ntmps59
  have e1 : ((UInt8.ofNat (s.size / 256)).toNat : Int) = (s.size : Int) / 256 := by
    rw [UInt8.toNat_ofNat']
    omega
  have e2 : ((UInt8.ofNat s.size).toNat : Int) = (s.size : Int) % 256 := by
    rw [UInt8.toNat_ofNat']
    omega
  have HV : Hid (byteVals (bs ++ txt s) = byteVals bs ++ [.int .u8 ((s.size : Int) / 256), .int .u8 ((s.size : Int) % 256)] ++ Lib.strCells s) := by
    show _ = _
    unfold txt
    rw [byteVals_append, byteVals_append, ← List.append_assoc]
    congr 1
    congr 1
    show [Value.int .u8 ((UInt8.ofNat (s.size / 256)).toNat : Int), Value.int .u8 ((UInt8.ofNat s.size).toNat : Int)] = _
    rw [e1, e2]
  have HN : Hid ((bs ++ txt s).length = bs.length + 2 + s.size) := by show _ = _; rw [List.length_append, txt_length]; omega
  clear e1 e2
  go_wp2_with (first
    | (at_builtin; refine wpList_append_own_at _ rfl _ _ 38 rfl base 5 i0 _ 1 1 Tryd.underlying38 hi0 hz0 hz1 hz2 rfl (by decide) (.slice a bs.length c) bs.length (byteVals bs) rfl (World.ownsRow.alloc HR.out _) ⟨w.heap.size, 0, none⟩ 2 2 [.int .u8 ((s.size : Int) / 256), .int .u8 ((s.size : Int) % 256)] rfl rfl (World.news_of_block (cs := #[.int .u8 ((s.size : Int) / 256), .int .u8 ((s.size : Int) % 256)]) (t := 5) (fr := (0, 0)) (heap_alloc_new w _)) (by simp [Value.oneCell']) (by unfold maxLen; omega) (by omega) (by simp; omega) ?_; intro v1 w1 hr1 hg1 hnil1 hloc1)
    | (at_builtin; refine Lib.wpList_append_own_string _ rfl _ _ 38 9 rfl base 5 i0 Tryd.underlying38 Tryd.underlying9 hi0 hz0 hz1 hz2 v1 (bs.length + 2) _ rfl hr1 s rfl (by unfold maxLen; omega) (by omega) (by have := hg1.size; simp at this; omega) ?_; intro v2 w2 hr2 hg2 hx2))
  go_ret
  refine ⟨_, rfl, ?_, ?_⟩
  · unfold Row
    rw [HV.out, HN.out]
    exact hr2
  · have hga : w.grownBy w1 (Value.slice a bs.length c).ownBlock := World.grownBy.trans (World.grownBy_alloc w _ _) hg1
    refine grown_two hga ?_ hg2
    rcases hloc1 with e | e
    · exact Or.inl e
    · exact Or.inr ⟨_, e, by simp⟩


theorem labs_succ (ls : List Lb) (k : Nat) (hk : k < ls.length) : (ls.take (k + 1)).flatMap lab = (ls.take k).flatMap lab ++ txt ls[k].1 ++ txt ls[k].2 := by
  rw [List.take_succ_eq_append_getElem hk, List.flatMap_append]
  simp [lab]
theorem labs_size (ls : List Lb) (hsh : Short ls) : ∀ k, k ≤ ls.length → ((ls.take k).flatMap lab).length ≤ k * 2052
  | 0, _ => by simp
  | k + 1, hk => by
    have ih := labs_size ls hsh k (by omega)
    have hlt : k < ls.length := by omega
    have h9 := hsh k hlt
    rw [labs_succ ls k hlt, List.length_append, List.length_append, txt_length, txt_length]
    omega

set_option maxRecDepth 100000 in
set_option maxHeartbeats 2000000 in
theorem refBytes_any (v : Value) (ls : List Lb) (w : World) (h : LabsAt w v ls) (hl : ls.length ≤ 255) (hsh : Short ls) :
    Calls Tryd.prog 31 #[v] w fun e w' => ∃ v', e = .returned v' ∧ Row w' w.heap.size v' (bytesL ls) ∧ Below w.heap.size w w' := by
  obtain ⟨a, c, rfl, -, -⟩ := id h
  have HC : Hid (LabsAt w (.slice a ls.length c) ls) := h
  have HS : Hid (Short ls) := hsh
  have HZ : Hid (∀ k, k ≤ ls.length → ((ls.take k).flatMap lab).length ≤ k * 2052) := labs_size ls hsh
  clear h hsh
  have hlu : ((UInt8.ofNat ls.length).toNat : Int) = (ls.length : Int) := by rw [UInt8.toNat_ofNat']; omega
  have HR0 : Hid (Row (w.alloc (.cells #[.int .u8 ls.length] 5)) w.heap.size (.slice (some ⟨w.heap.size, 0, none⟩) 1 1) [UInt8.ofNat ls.length]) := by
    refine ⟨rfl, Or.inr ⟨w.heap.size, 1, #[.int .u8 ls.length], rfl, Nat.le_refl _, heap_alloc_new w _, Nat.le_refl _, by decide, rfl, ?_⟩⟩
    show [Value.int .u8 (ls.length : Int)] = [Value.int .u8 ((UInt8.ofNat ls.length).toNat : Int)]
    rw [hlu]
  have HB0 : Hid (Below w.heap.size w (w.alloc (.cells #[.int .u8 ls.length] 5))) := (Below.refl _ _).alloc (Nat.le_refl _) _
  have HBL : Hid (bytesL ls = [UInt8.ofNat ls.length] ++ ls.flatMap lab) := rfl
  clear hlu
  go_enter Tryd.func31, Tryd.ntmps31
  go_wp2
  go_loopw [3, 4] (fun vb i wr => ∃ k : Nat, k ≤ ls.length ∧ i = .int .i64 k ∧ Hid (Row wr w.heap.size vb ([UInt8.ofNat ls.length] ++ (ls.take k).flatMap lab)) ∧ Hid (Below w.heap.size w wr)) (fun _ i _ => ls.length - (intOf i).toNat)
  case atStart => exact ⟨0, Nat.zero_le _, rfl, by show Row _ _ _ _; simpa using HR0.out, HB0⟩
  case round =>
    clear HR0 HB0
    obtain ⟨k, hk, rfl, hrow, hbel⟩ := hrel
    by_cases hlt : k < ls.length
    · obtain ⟨b, o, rfl, hone⟩ := HC.out.one k hlt
      have HO : Hid (∀ W, Below w.heap.size w W → W.cell? ⟨b, o + k * 2, none⟩ = some (.string ls[k].1) ∧ W.cell? ⟨b, o + k * 2 + 1, none⟩ = some (.string ls[k].2)) := hone
      have hsk := HS.out k hlt
      have hz := HZ.out k hk
      have HE : Hid ([UInt8.ofNat ls.length] ++ (ls.take (k + 1)).flatMap lab = [UInt8.ofNat ls.length] ++ (ls.take k).flatMap lab ++ txt ls[k].1 ++ txt ls[k].2) := by
        show _ = _
        rw [labs_succ ls k hlt]
        simp
      obtain ⟨x, hx⟩ : ∃ x, x = ls[k].1 := ⟨_, rfl⟩
      obtain ⟨y, hy⟩ : ∃ y, y = ls[k].2 := ⟨_, rfl⟩
      rw [← hx, ← hy] at HO HE hsk
      clear hx hy hone
      have hal : ([UInt8.ofNat ls.length] ++ (ls.take k).flatMap lab).length ≤ 1000000 := by rw [List.length_append, List.length_singleton]; omega
      generalize [UInt8.ofNat ls.length] ++ (ls.take k).flatMap lab = acc at *
      obtain ⟨av, cv, hvv⟩ := slice_of_row hrow.out
      subst hvv
      have hal1 : (acc ++ txt x).length ≤ 1002000 := by rw [List.length_append, txt_length]; omega
      have HC1 : Hid (∀ W, Row W w.heap.size (.slice av acc.length cv) acc → w.heap.size ≤ W.heap.size → Calls Tryd.prog 59 #[.slice av acc.length cv, .string x] W fun e w' => ∃ v', e = .returned v' ∧ Row w' w.heap.size v' (acc ++ txt x) ∧ W.grownBy w' (Value.slice av acc.length cv).ownBlock) := fun W h1 h2 => refTxt_any w.heap.size _ acc x W h1 (by omega) (by omega) h2
      generalize hac1 : acc ++ txt x = acc1 at *
      have HC2 : Hid (∀ V W, Row W w.heap.size V acc1 → w.heap.size ≤ W.heap.size → Calls Tryd.prog 59 #[V, .string y] W fun e w' => ∃ v', e = .returned v' ∧ Row w' w.heap.size v' (acc1 ++ txt y) ∧ W.grownBy w' V.ownBlock) := fun V W h1 h2 => refTxt_any w.heap.size V acc1 y W h1 (by omega) (by omega) h2
      generalize hac2 : acc1 ++ txt y = acc2 at *
      have HE2 : Hid ([UInt8.ofNat ls.length] ++ (ls.take (k + 1)).flatMap lab = acc2) := HE.out
      clear HE hac1 hac2
      obtain ⟨g0, g1⟩ := HO.out wr hbel.out
      have hkl : (k : Int) < (ls.length : Int) := by omega
      have HROWD : Hid (Row wr.drew w.heap.size (.slice av acc.length cv) acc) := World.ownsRow.drew hrow.out
      have HBD : Hid (Below w.heap.size w wr.drew) := hbel.out.drew
      clear hrow hbel
      go_wp2_with fail
      go_region_held3 (fun w' => w'.cell? ⟨b, o + k * 2, none⟩ = some (.string x) ∧ w'.cell? ⟨b, o + k * 2 + 1, none⟩ = some (.string y))
        (first | exact ⟨g0, g1⟩ | exact ⟨f0, f1⟩ | exact ⟨d0, d1⟩)
        (first
          | (go_at_call 59; refine (HC1.out _ HROWD.out HBD.out.size).mono ?_; clear HC1; rintro e w8 ⟨v8, rfl, hr8, hg8⟩; have hb8 := below_grown HBD.out (row_lo HROWD.out) hg8; obtain ⟨f0, f1⟩ := HO.out w8 hb8; obtain ⟨a8, c8, hv8⟩ := slice_of_row hr8; subst hv8; have HR8 : Hid (Row w8 w.heap.size (.slice a8 acc1.length c8) acc1) := hr8; have HB8 : Hid (Below w.heap.size w w8) := hb8; clear hr8 hg8 hb8)
          | (go_at_call 59; refine (HC2.out _ _ HR8.out HB8.out.size).mono ?_; clear HC2; rintro e w9 ⟨v9, rfl, hr9, hg9⟩; have hb9 := below_grown HB8.out (row_lo HR8.out) hg9; obtain ⟨d0, d1⟩ := HO.out w9 hb9; obtain ⟨a9, c9, hv9⟩ := slice_of_row hr9; subst hv9))
      go_wp2
      go_roundw
      case rel => exact ⟨k + 1, by omega, by go_num, by show Row _ _ _ _; rw [HE2.out]; exact hr9, hb9⟩
      case measure => simp [intOf]; omega
    · have h9 := hrow.out
      rw [List.take_of_length_le (by omega), ← HBL.out] at h9
      obtain ⟨av, cv, hvv⟩ := slice_of_row h9
      subst hvv
      have HR : Hid (Row wr w.heap.size (.slice av (bytesL ls).length cv) (bytesL ls)) := h9
      clear h9
      clear hrow HC HS HZ
      go_wp2
      go_ret
      exact ⟨_, rfl, HR.out, hbel.out⟩

set_option maxRecDepth 100000 in
set_option maxHeartbeats 1500000 in
theorem refSum_any (v : Value) (bs : List UInt8) (w : World) (h : BytesAt w v bs) (hlen : bs.length ≤ 1000000) :
    Calls Tryd.prog 60 #[v] w fun e w' => e = .returned (.int .u64 (sumL bs)) ∧ w' = w := by
  obtain ⟨a, c, rfl, -, -⟩ := id h
  have HR : Hid (BytesAt w (.slice a bs.length c) bs) := h
  clear h
  go_enter Tryd.func60, Tryd.ntmps60
  go_wp2
  go_loop [3, 4] (fun hv i => ∃ (k : Nat) (H : Int), k ≤ bs.length ∧ i = .int .i64 k ∧ hv = .int .u64 H ∧ Hid (sumL (bs.take k) = H)) (fun _ i => bs.length - (intOf i).toNat)
  case atStart => exact ⟨0, _, Nat.zero_le _, rfl, rfl, rfl⟩
  case round =>
    obtain ⟨k, H, hk, rfl, rfl, hH⟩ := hrel
    by_cases hlt : k < bs.length
    · obtain ⟨g, o, rfl, hc⟩ := HR.out.one k hlt
      have hc := hc w (Below.refl _ _)
      have hcl := bs[k].toNat_lt
      have HN : Hid (sumL (bs.take (k + 1)) = IntKind.u64.wrap (bits BinOp.xor IntKind.u64 H (bs[k].toNat : Int) * 1099511628211)) := by
        show _ = _
        rw [sumL_succ bs k hlt, hH.out]
        rfl
      generalize bs[k].toNat = cN at *
      go_wp2
      exact ⟨⟨k + 1, _, by omega, by go_num, rfl, HN⟩, by simp [intOf]; omega⟩
    · have HN : Hid (sumL bs = H) := by
        have := hH.out
        rw [List.take_of_length_le (by omega)] at this
        exact this
      go_wp2
      go_ret
      exact ⟨ret_u64 HN.out.symm, rfl⟩

set_option maxRecDepth 100000 in
set_option maxHeartbeats 1000000 in
theorem refHash_any (v : Value) (ls : List Lb) (w : World) (h : LabsAt w v ls) (hl : ls.length ≤ 255) (hsh : Short ls) :
    Calls Tryd.prog 33 #[v] w fun e w' => e = .returned (.int .u64 (sumL (bytesL ls))) ∧ Below w.heap.size w w' := by
  have hby := refBytes_any v ls w h hl hsh
  have hlen := bytesL_length hl hsh
  obtain ⟨a, c, rfl, -, -⟩ := id h
  generalize bytesL ls = bs at *
  clear h hsh
  have HS : Hid (∀ V W, BytesAt W V bs → Calls Tryd.prog 60 #[V] W fun e w' => e = .returned (.int .u64 (sumL bs)) ∧ w' = W) := fun V W hV => refSum_any V bs W hV hlen
  go_enter Tryd.func33, Tryd.ntmps33
  go_wp2_with (first
    | (go_at_call 31; refine hby.mono ?_; clear hby; rintro e w1 ⟨v1, rfl, hr1, hb1⟩; obtain ⟨a1, c1, hv1⟩ := slice_of_row hr1; subst hv1)
    | (go_at_call 60; refine (HS.out _ _ (BytesAt.of_row hr1)).mono ?_; rintro e w2 ⟨rfl, rfl⟩))
  go_ret
  exact ⟨rfl, hb1⟩

end Go.Proofs.YtobkomfeojhhbaaDoor
