/- The statement's own digits. -/
import Derived.Test.YtinfnkhghmcelaaDoorMIc
import Derived.Test.YtinfnkhghmcelaaDoorMFa
namespace Go.Proofs.YtinfnkhghmcelaaDoor
open Go.RowKit Go.Maps

theorem dig_more {ds : List Nat} {n M N : Nat} (hn : n = ds.length) (h : valL ds + 10 ^ n * M = N) : valL (ds ++ [M % 10]) + 10 ^ (n + 1) * (M / 10) = N := by
  rw [valL_snoc, ← hn, Nat.pow_succ, ← h, Nat.add_assoc, Nat.mul_assoc, ← Nat.mul_add]
  congr 2
  omega
theorem dig_few {n M N : Nat} {v : Nat} (h : v + 10 ^ n * M = N) (hM : 0 < M) (hN : N < 18446744073709551616) : n < 20 := by
  have h1 : 10 ^ n * 1 ≤ 10 ^ n * M := Nat.mul_le_mul_left _ hM
  have h2 : 10 ^ n < 10 ^ 20 := by
    have : (10 : Nat) ^ 20 = 100000000000000000000 := by decide +kernel
    omega
  exact (Nat.pow_lt_pow_iff_right (by decide)).1 h2
theorem lt_snoc {ds : List Nat} (h : ∀ d ∈ ds, d < 10) {x : Nat} (hx : x < 10) : ∀ d ∈ ds ++ [x], d < 10 := fun d hd => by
  rcases List.mem_append.1 hd with h1 | h1
  · exact h d h1
  · rw [List.mem_singleton.1 h1]; exact hx
theorem getD_lt {cur : List Nat} (h : ∀ d ∈ cur, d < 10) (k : Nat) : cur.getD k 0 < 10 := by
  rcases Nat.lt_or_ge k cur.length with h1 | h1
  · rw [List.getD_eq_getElem?_getD, List.getElem?_eq_getElem h1]
    exact h _ (List.getElem_mem h1)
  · rw [List.getD_eq_getElem?_getD, List.getElem?_eq_none h1]
    decide
/-- One digit is doubled. -/
theorem dbl_step {ds cur : List Nat} {n k C : Nat} (hc : cur.length = n) (hk : k < n) (hdr : cur.drop k = ds.drop k) (hl : ds.length = n) (hlt : ∀ d ∈ cur, d < 10) (hv : valL (cur.take k) + 10 ^ k * C = 2 * valL (ds.take k)) {x : Nat} (hx : x = 2 * cur.getD k 0 + C) :
    (cur.set k (x % 10)).length = n ∧ (∀ d ∈ cur.set k (x % 10), d < 10) ∧ (cur.set k (x % 10)).drop (k + 1) = ds.drop (k + 1) ∧ valL ((cur.set k (x % 10)).take (k + 1)) + 10 ^ (k + 1) * (x / 10) = 2 * valL (ds.take (k + 1)) := by
  have hd : ds[k]'(by omega) = cur.getD k 0 := by
    have h1 : (cur.drop k)[0]? = (ds.drop k)[0]? := by rw [hdr]
    rw [List.getElem?_drop, List.getElem?_drop, Nat.add_zero, List.getElem?_eq_getElem (by omega), List.getElem?_eq_getElem (by omega)] at h1
    rw [List.getD_eq_getElem?_getD, List.getElem?_eq_getElem (by omega)]
    exact (Option.some.inj h1).symm
  refine ⟨by rw [List.length_set, hc], fun d h => ?_, ?_, ?_⟩
  · rcases List.mem_or_eq_of_mem_set h with h1 | h1
    · exact hlt d h1
    · rw [h1]; omega
  · rw [List.drop_set_of_lt (by omega)]
    have h1 : (cur.drop k).drop 1 = (ds.drop k).drop 1 := by rw [hdr]
    rwa [List.drop_drop, List.drop_drop] at h1
  · have e1 : (cur.set k (x % 10)).take (k + 1) = cur.take k ++ [x % 10] := by
      rw [List.take_succ_eq_append_getElem (by rw [List.length_set]; omega), List.getElem_set_self, List.take_set_of_le (by omega)]
    rw [e1, valL_snoc, List.length_take, Nat.min_eq_left (by omega), valL_take (by omega), hd, Nat.pow_succ, Nat.mul_add 2, ← hv, Nat.add_assoc, Nat.add_assoc, Nat.mul_assoc, ← Nat.mul_add, Nat.mul_left_comm 2, ← Nat.mul_add]
    congr 2
    omega
theorem dbl_done {ds cur : List Nat} {n C N i : Nat} (hc : cur.length = n) (hl : ds.length = n) (hv : valL (cur.take n) + 10 ^ n * C = 2 * valL (ds.take n)) (h : valL ds = N * 2 ^ i) : valL cur + 10 ^ n * C = N * 2 ^ (i + 1) := by
  rw [List.take_of_length_le (by omega), List.take_of_length_le (by omega)] at hv
  rw [hv, h, Nat.pow_succ, Nat.mul_comm 2, Nat.mul_assoc]

set_option maxRecDepth 100000 in
set_option maxHeartbeats 2000000 in
theorem lawDigits_any (N e : Nat) (w : World) (hN0 : 0 < N) (hN : N < 18446744073709551616) (he : e ≤ 100) : Calls Tryd.prog 16 #[.int .u64 N, .int .i64 e] w fun x w' => (∃ T : List UInt8, x = .returned (.string ⟨T.toArray⟩) ∧ (∀ b ∈ T, isD b) ∧ T ≠ [] ∧ T.length ≤ 130 ∧ valT T = N * 2 ^ e) ∧ Below w.heap.size w w' := by
  go_enter Tryd.func16, Tryd.ntmps16
  go_wp2
  go_loopw [0, 5] (fun mv sv wr => ∃ (M n : Nat) (ao : Option Addr) (co : Nat) (ds : List Nat), mv = .int .u64 M ∧ M < 18446744073709551616 ∧ sv = .slice ao n co ∧ n ≤ 20 ∧ Hid (n = ds.length ∧ wr.ownsRow w.heap.size 3 1 (.slice ao n co) n (i64s ds) ∧ (∀ d ∈ ds, d < 10) ∧ valL ds + 10 ^ n * M = N ∧ Below w.heap.size w wr)) (fun mv _ _ => (intOf mv).toNat)
  case atStart => exact ⟨N, 0, none, 0, [], rfl, hN, rfl, by omega, rfl, World.ownsRow_nil _ _ _ _, fun d hd => by simp at hd, by simp [valL], Below.refl _ _⟩
  case round =>
    obtain ⟨M, n, ao, co, ds, rfl, hM, rfl, hn, hI⟩ := hrel
    have HRW : Hid (wr.ownsRow w.heap.size 3 1 (.slice ao n co) n (i64s ds)) := hI.out.2.1
    have HBL : Hid (Below w.heap.size w wr) := hI.out.2.2.2.2
    have hsz := hI.out.2.2.2.2.size
    by_cases hpos : 0 < M
    · have hxi : (0 : Int) < M := by omega
      have hn20 : n < 20 := dig_few hI.out.2.2.2.1 hpos hN
      have HV : Hid (valL (ds ++ [M % 10]) + 10 ^ (n + 1) * (M / 10) = N) := dig_more hI.out.1 hI.out.2.2.2.1
      have HL : Hid (n + 1 = (ds ++ [M % 10]).length) := by show _ = _; simp [hI.out.1]
      have HD : Hid (∀ d ∈ ds ++ [M % 10], d < 10) := lt_snoc hI.out.2.2.1 (by omega)
      clear hI
      go_wp2_with (at_builtin; refine wpList_append_int _ rfl _ _ rfl w.heap.size ao n co ds rfl (World.ownsRow.alloc HRW.out _) wr.heap.size ((M : Int) % 10) (M % 10) (by omega) rfl (heap_alloc_new wr _) (by omega) (by simp; omega) ?_; intro a3 c3 w3 hr3 hg3)
      go_roundw
      case rel =>
        refine ⟨M / 10, n + 1, a3, c3, ds ++ [M % 10], by first | (congr 1; omega) | congr 1, by omega, rfl, by omega, HL.out, hr3, HD.out, HV.out, ?_⟩
        exact (HBL.out.alloc hsz _).grown hg3 (by simp; omega) (fun j hj => (HRW.out.lt j hj).1)
      case measure => simp [intOf]; omega
    · obtain rfl : M = 0 := by omega
      have HIN : Hid (n = ds.length ∧ wr.ownsRow w.heap.size 3 1 (.slice ao n co) n (i64s ds) ∧ (∀ d ∈ ds, d < 10) ∧ valL ds = N * 2 ^ 0 ∧ Below w.heap.size w wr) := by
        obtain ⟨h1, h2, h3, h4, h5⟩ := hI.out
        exact ⟨h1, h2, h3, by rw [Nat.mul_zero, Nat.add_zero] at h4; rw [h4]; simp, h5⟩
      clear hI HRW HBL hsz hpos
      go_wp2
      go_loopw [5, 6] (fun sv iv wr => ∃ (i n : Nat) (ao : Option Addr) (co : Nat) (ds : List Nat), iv = .int .i64 i ∧ i ≤ e ∧ sv = .slice ao n co ∧ n ≤ 20 + i ∧ Hid (n = ds.length ∧ wr.ownsRow w.heap.size 3 1 (.slice ao n co) n (i64s ds) ∧ (∀ d ∈ ds, d < 10) ∧ valL ds = N * 2 ^ i ∧ Below w.heap.size w wr)) (fun _ iv _ => e - (intOf iv).toNat)
      case atStart => exact ⟨0, n, ao, co, ds, rfl, Nat.zero_le _, rfl, by omega, HIN.out⟩
      case round =>
        clear HIN hn hM
        obtain ⟨i, n, ao, co, ds, rfl, hie, rfl, hn, HI⟩ := hrel
        by_cases hlt : i < e
        · have hli : (i : Int) < e := by omega
          go_wp2
          go_loopw [7, 8] (fun cv kv wr => ∃ (k C : Nat) (cur : List Nat), kv = .int .i64 k ∧ k ≤ n ∧ cv = .int .i64 C ∧ C ≤ 1 ∧ Hid (cur.length = n ∧ wr.ownsRow w.heap.size 3 1 (.slice ao n co) n (i64s cur) ∧ (∀ d ∈ cur, d < 10) ∧ cur.drop k = ds.drop k ∧ valL (cur.take k) + 10 ^ k * C = 2 * valL (ds.take k) ∧ Below w.heap.size w wr)) (fun _ kv _ => n - (intOf kv).toNat)
          case atStart => exact ⟨0, 0, ds, rfl, Nat.zero_le _, rfl, by omega, HI.out.1.symm, HI.out.2.1, HI.out.2.2.1, rfl, rfl, HI.out.2.2.2.2⟩
          case round =>
            have HNL : Hid (ds.length = n ∧ valL ds = N * 2 ^ i) := ⟨HI.out.1.symm, HI.out.2.2.2.1⟩
            clear HI
            obtain ⟨k, C, cur, rfl, hk, rfl, hC, HI⟩ := hrel
            by_cases hkn : k < n
            · have hki : (k : Int) < n := by omega
              obtain ⟨g, rfl, hg, hcell, hfr⟩ := row_at HI.out.2.1 HI.out.1.symm hkn
              obtain ⟨x, hx⟩ : ∃ x, x = 2 * cur.getD k 0 + C := ⟨_, rfl⟩
              have hst := dbl_step HI.out.1 hkn HI.out.2.2.2.1 HNL.out.1 HI.out.2.2.1 HI.out.2.2.2.2.1 hx
              have hd10 := getD_lt HI.out.2.2.1 k
              have hrow : (wr.setCell ⟨g, k, none⟩ (.int .i64 ((x % 10 : Nat) : Int))).ownsRow w.heap.size 3 1 (.slice (some ⟨g, 0, none⟩) n co) n (i64s (cur.set k (x % 10))) := by
                rw [← i64s_set]
                exact ownsRow_set HI.out.2.1 rfl _
              have HST : Hid ((cur.set k (x % 10)).length = n ∧ (wr.setCell ⟨g, k, none⟩ (.int .i64 ((x % 10 : Nat) : Int))).ownsRow w.heap.size 3 1 (.slice (some ⟨g, 0, none⟩) n co) n (i64s (cur.set k (x % 10))) ∧ (∀ d ∈ cur.set k (x % 10), d < 10) ∧ (cur.set k (x % 10)).drop (k + 1) = ds.drop (k + 1) ∧ valL ((cur.set k (x % 10)).take (k + 1)) + 10 ^ (k + 1) * (x / 10) = 2 * valL (ds.take (k + 1)) ∧ Below w.heap.size w (wr.setCell ⟨g, k, none⟩ (.int .i64 ((x % 10 : Nat) : Int)))) :=
                ⟨hst.1, hrow, hst.2.1, hst.2.2.1, hst.2.2.2, HI.out.2.2.2.2.2.setCell (p := ⟨g, k, none⟩) hg _⟩
              clear hst hrow HI
              generalize cur.getD k 0 = d at *
              generalize hcs : cur.set k (x % 10) = cur' at HST
              clear hcs
              have hxb : x ≤ 19 := by omega
              subst hx
              go_wp2
              go_roundw
              case rel => exact ⟨k + 1, (2 * d + C) / 10, cur', by go_num, by omega, by first | (congr 1; omega) | congr 1, by omega, HST.out⟩
              case measure => simp [intOf]; omega
            · have hki : ¬ (k : Int) < n := by omega
              obtain rfl : k = n := by omega
              have HV : Hid (valL cur + 10 ^ k * C = N * 2 ^ (i + 1)) := dbl_done HI.out.1 HNL.out.1 HI.out.2.2.2.2.1 HNL.out.2
              have HRW : Hid (wr.ownsRow w.heap.size 3 1 (.slice ao k co) k (i64s cur)) := HI.out.2.1
              have HBL : Hid (Below w.heap.size w wr) := HI.out.2.2.2.2.2
              have HCL : Hid (k = cur.length ∧ (∀ d ∈ cur, d < 10)) := ⟨HI.out.1.symm, HI.out.2.2.1⟩
              have hsz := HI.out.2.2.2.2.2.size
              clear HI HNL hkn
              by_cases hC0 : C = 0
              · have hCi : ¬ (0 : Int) < C := by omega
                have HV0 : Hid (valL cur = N * 2 ^ (i + 1)) := by
                  show _ = _
                  rw [← HV.out, hC0, Nat.mul_zero, Nat.add_zero]
                clear hC0 HV
                go_wp2
                go_roundw
                case rel => exact ⟨i + 1, k, ao, co, cur, by go_num, by omega, rfl, by omega, HCL.out.1, HRW.out, HCL.out.2, HV0.out, HBL.out⟩
                case measure => simp [intOf]; omega
              · have hCi : (0 : Int) < C := by omega
                have HV1 : Hid (valL (cur ++ [C]) = N * 2 ^ (i + 1)) := by
                  show _ = _
                  rw [← HV.out, valL_snoc, ← HCL.out.1]
                have HD : Hid (∀ d ∈ cur ++ [C], d < 10) := lt_snoc HCL.out.2 (by omega)
                have HL : Hid (k + 1 = (cur ++ [C]).length) := by show _ = _; simp [← HCL.out.1]
                clear hC0 HV HCL
                go_wp2_with (at_builtin; refine wpList_append_int _ rfl _ _ rfl w.heap.size ao k co cur rfl (World.ownsRow.alloc HRW.out _) wr.heap.size (C : Int) C rfl rfl (heap_alloc_new wr _) (by omega) (by simp; omega) ?_; intro a3 c3 w3 hr3 hg3)
                have HB3 : Below w.heap.size w w3 := (HBL.out.alloc hsz _).grown hg3 (by simp; omega) (fun j hj => (HRW.out.lt j hj).1)
                exact ⟨⟨i + 1, by omega, by omega, k + 1, a3, c3, ⟨rfl, rfl, rfl⟩, by omega, cur ++ [C], HL.out, hr3, HD.out, HV1.out, HB3⟩, by simp [intOf]; omega⟩
        · have hli : ¬ (i : Int) < e := by omega
          obtain rfl : i = e := by omega
          have hn0 : 0 < n := by
            apply Classical.byContradiction
            intro h9
            have h8 : ds = [] := List.eq_nil_of_length_eq_zero (by rw [← HI.out.1]; omega)
            have h7 := HI.out.2.2.2.1
            rw [h8] at h7
            have h6 : 0 < N * 2 ^ i := Nat.mul_pos hN0 (Nat.pow_pos (by decide))
            rw [← h7] at h6
            exact absurd h6 (by decide)
          clear hlt
          have HRW : Hid (wr.ownsRow w.heap.size 3 1 (.slice ao n co) n (i64s ds)) := HI.out.2.1
          have HNL : Hid (n = ds.length ∧ (∀ d ∈ ds, d < 10) ∧ valL ds = N * 2 ^ i) := ⟨HI.out.1, HI.out.2.2.1, HI.out.2.2.2.1⟩
          have HBL : Hid (Below w.heap.size w wr) := HI.out.2.2.2.2
          clear HI
          go_wp2
          go_loopw [10, 11] (fun tv jv wu => ∃ (r : Nat) (DS : ByteArray), r ≤ n ∧ ((∃ q : Nat, r = q + 1 ∧ jv = .int .i64 q) ∨ (r = 0 ∧ jv = .int .i64 (-1))) ∧ tv = .string DS ∧ DS.size ≤ 130 ∧ Hid (DS = ⟨(txtL (ds.drop r)).toArray⟩ ∧ Below wr.heap.size wr wu)) (fun _ jv _ => (intOf jv + 1).toNat)
          case atStart => exact ⟨n, ⟨#[]⟩, Nat.le_refl _, Or.inl ⟨n - 1, by omega, by congr 1; omega⟩, rfl, by decide, by rw [HNL.out.1, List.drop_length]; rfl, Below.refl _ _⟩
          case round =>
            obtain ⟨r, DS, hr, hj, rfl, hDS, HJ⟩ := hrel
            rcases hj with ⟨q, rfl, rfl⟩ | ⟨rfl, rfl⟩
            · have hq : q < n := by omega
              obtain ⟨g, rfl, hg, hcell, -⟩ := row_at (row_below HRW.out HJ.out.2) HNL.out.1 hq
              have hd10 := getD_lt HNL.out.2.1 q
              have hcv := conv_digit wr (48 + (ds.getD q 0 : Nat)) (by omega) (by omega)
              have hjn : DS ++ (⟨#[UInt8.ofNat (48 + ((ds.getD q 0 : Nat) : Int)).toNat]⟩ : ByteArray) = ⟨(txtL (ds.drop q)).toArray⟩ := by
                have e1 : ds.drop q = ds.getD q 0 :: ds.drop (q + 1) := by
                  have hql : q < ds.length := by rw [← HNL.out.1]; exact hq
                  rw [List.getD_eq_getElem?_getD, List.getElem?_eq_getElem hql]
                  exact (List.getElem_cons_drop hql).symm
                rw [e1, txtL_cons, HJ.out.1, show (48 + ((ds.getD q 0 : Nat) : Int)).toNat = 48 + ds.getD q 0 by omega]
                exact ba_join _ [_]
              have hsz2 : (DS ++ (⟨#[UInt8.ofNat (48 + ((ds.getD q 0 : Nat) : Int)).toNat]⟩ : ByteArray)).size ≤ 130 := by
                rw [hjn]
                have h9 : (txtL (ds.drop q)).length = n - q := by rw [txtL_length, List.length_drop, ← HNL.out.1]
                show (txtL (ds.drop q)).toArray.size ≤ 130
                rw [List.size_toArray, h9]
                omega
              have HJN : Hid (DS ++ (⟨#[UInt8.ofNat (48 + ((ds.getD q 0 : Nat) : Int)).toNat]⟩ : ByteArray) = ⟨(txtL (ds.drop q)).toArray⟩) := hjn
              have HS2 : Hid ((DS ++ (⟨#[UInt8.ofNat (48 + ((ds.getD q 0 : Nat) : Int)).toNat]⟩ : ByteArray)).size ≤ 130) := hsz2
              have HB2 : Hid (∀ o : Obj, Below _ _ (wr.alloc o)) := fun o => HJ.out.2.alloc HJ.out.2.size o
              clear hjn hsz2 HJ
              generalize ds.getD q 0 = d at *
              generalize hdd : UInt8.ofNat (48 + (d : Int)).toNat = dd at *
              clear hdd
              go_wp2
              go_roundw
              case rel =>
                refine ⟨q, DS ++ ⟨#[dd]⟩, by omega, ?_, rfl, HS2.out, HJN.out, HB2.out _⟩
                rcases Nat.eq_zero_or_pos q with h0 | h0
                · exact Or.inr ⟨h0, by rw [h0]; rfl⟩
                · exact Or.inl ⟨q - 1, by omega, by rw [show (q : Int) - 1 = ((q - 1 : Nat) : Int) by omega]⟩
              case measure => simp [intOf]
            · have HT : Hid (DS = ⟨(txtL ds).toArray⟩) := HJ.out.1
              have HB9 := HBL.out.trans (HJ.out.2.mono HBL.out.size)
              have HBF : Hid (Below w.heap.size w wr) := HB9
              clear HJ HB9
              go_wp2
              go_ret
              refine ⟨⟨txtL ds, by rw [← HT.out]; rfl, txtL_dig HNL.out.2.1, ?_, ?_, ?_⟩, HBF.out⟩
              · intro e9
                have h9 := txtL_length ds
                rw [e9, ← HNL.out.1] at h9
                simp at h9
                omega
              · rw [txtL_length, ← HNL.out.1]; omega
              · rw [txtL_val HNL.out.2.1, HNL.out.2.2]
end Go.Proofs.YtinfnkhghmcelaaDoor
