/- Reading numbers: decimals, walked. -/
import Derived.Test.YtfckdleahljdeaaGreatDoorMN8
import Derived.WalkMore
namespace Go.Proofs.YtfckdleahljdeaaGreatDoor.Nu
open Go.RowKit Go.Maps

set_option maxRecDepth 100000 in
set_option maxHeartbeats 1500000 in
theorem readDecimal_any (s : ByteArray) (w : World) (hs : s.size ≤ 1000000) : Calls Tryz.prog 60 #[.string s] w fun e w' =>
    (match decR s with
      | none => ∃ a n c p, e = .returned (.tuple #[.agg #[.slice a n c, .int .i64 p], .bool false])
      | some (ds, p) => ∃ a c, e = .returned (.tuple #[.agg #[.slice a ds.length c, .int .i64 p], .bool true]) ∧ w'.ownsRow w.heap.size 5 1 (.slice a ds.length c) ds.length (u8s ds)) ∧ Below w.heap.size w w' := by
  obtain ⟨W1, hW1⟩ : ∃ W1, (w.alloc (.cells #[.slice none 0 0, .int .i64 0] 93)).alloc (.cells #[.slice none 0 0, .int .i64 0] 93) = W1 := ⟨_, rfl⟩
  have hD0 : DecAt w W1 none 0 [] 0 := by
    rw [← hW1]
    refine ⟨?_, ?_, World.ownsRow_nil _ _ _ _, ((Below.refl _ _).alloc (Nat.le_refl _) _).alloc (by simp) _⟩
    · have h9 := heap_alloc_new (w.alloc (.cells #[.slice none 0 0, .int .i64 0] 93)) (.cells #[.slice none 0 0, .int .i64 0] 93)
      rw [World.size_alloc] at h9
      exact h9
    · exact (Below.heap_alloc _ _ _ (by simp)).trans (heap_alloc_new w _)
  have HD0 : Hid (DecAt w W1 none 0 [] 0) := hD0
  have HW1 : Hid _ := hW1
  clear hD0 hW1
  go_enter Tryz.func60, Tryz.ntmps60
  go_wp2
  go_step3
  go_wp2
  go_step3
  go_wp2
  rw [HW1.out]
  go_loopw [5, 6, 7] (fun sn pv at_ wr => ∃ (k n : Nat) (p : Int) (pt : Bool) (ds : List UInt8) (a : Option Addr) (c : Nat), k ≤ s.size ∧ at_ = .int .i64 k ∧ sn = .int .i64 n ∧ n ≤ k ∧ ds.length ≤ k ∧ (-(k : Int) ≤ p ∧ p ≤ 0) ∧ pv = .bool pt ∧ Hid (scanD (s.data.toList.drop k) ds p n pt = scanD s.data.toList [] 0 0 false ∧ DecAt w wr a c ds p)) (fun _ _ i _ => s.size - (intOf i).toNat)
  case atStart => exact ⟨0, 0, 0, false, [], none, 0, Nat.zero_le _, rfl, rfl, Nat.le_refl _, Nat.le_refl _, by omega, rfl, rfl, HD0.out⟩
  case round =>
    obtain ⟨k, n, p, pt, ds, a, c, hk, rfl, rfl, hnk, hdk, ⟨hp1, hp2⟩, rfl, hI⟩ := hrel
    clear HD0
    by_cases hlt : k < s.size
    · have hbl : s[k].toNat < 256 := s[k].toNat_lt
      by_cases hd : 48 ≤ s[k].toNat ∧ s[k].toNat ≤ 57
      · have hsc := hI.out.1
        have hD := hI.out.2
        rw [drop_byte s k hlt, scanD, if_pos hd] at hsc
        obtain ⟨hd1, hd2⟩ := hd
        have hdig := isDigit_yes (b := (s[k].toNat : Int)) wr (by omega) (by omega)
        obtain ⟨cd0, cd1, fd0, fd1⟩ := dec_cells hD.d
        have hbs := hD.bel.size
        have HD : Hid (DecAt w wr a c ds p) := hD
        clear hI hD
        generalize hyy : s[k].toNat = y at *
        by_cases h48 : y = 48
        · subst h48
          by_cases hds : ds = []
          · subst hds
            rw [if_neg (by simp)] at hsc
            have HSC : Hid _ := hsc
            clear hsc
            cases pt with
            | false =>
              go_wp2_with (go_at_call 86; refine hdig.mono ?_; clear hdig; rintro e w2 ⟨rfl, hw2⟩; have hw2 := hw2.symm; subst hw2)
              go_roundw
              case rel => exact ⟨k + 1, n + 1, p, false, [], a, c, by omega, by go_num, by go_num, by omega, by simp, by omega, rfl, HSC.out, HD.out⟩
              case measure => simp [intOf]; omega
            | true =>
              go_wp2_with (go_at_call 86; refine hdig.mono ?_; clear hdig; rintro e w2 ⟨rfl, hw2⟩; have hw2 := hw2.symm; subst hw2)
              go_roundw
              case rel => exact ⟨k + 1, n + 1, p - 1, true, [], a, c, by omega, by go_num, by go_num, by omega, by simp, by omega, rfl, HSC.out, HD.out.power _⟩
              case measure => simp [intOf]; omega
          · rw [if_pos (Or.inr hds)] at hsc
            have hdl : 0 < ds.length := by
              cases ds with
              | nil => exact absurd rfl hds
              | cons _ _ => simp
            clear hds
            have HL2 : Hid ((ds ++ [UInt8.ofNat (48 - 48)]).length = ds.length + 1) := by show _ = _; simp
            have e9 : UInt8.ofNat ((0 : Int)).toNat = UInt8.ofNat (48 - 48) := by congr 1
            have HSC : Hid _ := hsc
            clear hsc
            cases pt with
            | false =>
              go_wp2_with (first
                | (go_at_call 86; refine hdig.mono ?_; clear hdig; rintro e w2 ⟨rfl, hw2⟩; have hw2 := hw2.symm; subst hw2)
                | (at_builtin; refine wpList_append_byte _ rfl _ _ rfl w.heap.size a ds.length c ds rfl (World.ownsRow.alloc HD.out.row _) wr.heap.size ((0 : Int)) (by omega) (by omega) rfl (heap_alloc_new wr _) (by omega) (by simp; omega) ?_; intro a3 c3 w3 hr3 hg3; rw [e9, ← HL2.out] at hr3; obtain ⟨hdd, hD3⟩ := HD.out.digit hr3 hg3; obtain ⟨cd0', cd1', fd0', fd1'⟩ := dec_cells hdd; rw [HL2.out] at hD3; obtain ⟨ce0, ce1, fe0, fe1⟩ := dec_cells hD3.d))
              go_roundw
              case rel => exact ⟨k + 1, n + 1, p, false, ds ++ [UInt8.ofNat (48 - 48)], a3, c3, by omega, by go_num, by go_num, by omega, by rw [HL2.out]; omega, by omega, rfl, HSC.out, hD3⟩
              case measure => simp [intOf]; omega
            | true =>
              go_wp2_with (first
                | (go_at_call 86; refine hdig.mono ?_; clear hdig; rintro e w2 ⟨rfl, hw2⟩; have hw2 := hw2.symm; subst hw2)
                | (at_builtin; refine wpList_append_byte _ rfl _ _ rfl w.heap.size a ds.length c ds rfl (World.ownsRow.alloc HD.out.row _) wr.heap.size ((0 : Int)) (by omega) (by omega) rfl (heap_alloc_new wr _) (by omega) (by simp; omega) ?_; intro a3 c3 w3 hr3 hg3; rw [e9, ← HL2.out] at hr3; obtain ⟨hdd, hD3⟩ := HD.out.digit hr3 hg3; obtain ⟨cd0', cd1', fd0', fd1'⟩ := dec_cells hdd; rw [HL2.out] at hD3; obtain ⟨ce0, ce1, fe0, fe1⟩ := dec_cells hD3.d))
              go_roundw
              case rel => exact ⟨k + 1, n + 1, p - 1, true, ds ++ [UInt8.ofNat (48 - 48)], a3, c3, by omega, by go_num, by go_num, by omega, by rw [HL2.out]; omega, by omega, rfl, HSC.out, hD3.power (p - 1)⟩
              case measure => simp [intOf]; omega
        · rw [if_pos (Or.inl h48)] at hsc
          have h48' : ((y : Int) == 48) = false := by simp; omega
          have HL2 : Hid ((ds ++ [UInt8.ofNat (y - 48)]).length = ds.length + 1) := by show _ = _; simp
          have e9 : UInt8.ofNat ((y : Int) - 48).toNat = UInt8.ofNat (y - 48) := by congr 1; omega
          have HSC : Hid _ := hsc
          clear hsc
          cases pt with
          | false =>
            go_wp2_with (first
              | (go_at_call 86; refine hdig.mono ?_; clear hdig; rintro e w2 ⟨rfl, hw2⟩; have hw2 := hw2.symm; subst hw2)
              | (at_builtin; refine wpList_append_byte _ rfl _ _ rfl w.heap.size a ds.length c ds rfl (World.ownsRow.alloc HD.out.row _) wr.heap.size ((y : Int) - 48) (by omega) (by omega) rfl (heap_alloc_new wr _) (by omega) (by simp; omega) ?_; intro a3 c3 w3 hr3 hg3; rw [e9, ← HL2.out] at hr3; obtain ⟨hdd, hD3⟩ := HD.out.digit hr3 hg3; obtain ⟨cd0', cd1', fd0', fd1'⟩ := dec_cells hdd; rw [HL2.out] at hD3; obtain ⟨ce0, ce1, fe0, fe1⟩ := dec_cells hD3.d))
            go_roundw
            case rel => exact ⟨k + 1, n + 1, p, false, ds ++ [UInt8.ofNat (y - 48)], a3, c3, by omega, by go_num, by go_num, by omega, by rw [HL2.out]; omega, by omega, rfl, HSC.out, hD3⟩
            case measure => simp [intOf]; omega
          | true =>
            go_wp2_with (first
              | (go_at_call 86; refine hdig.mono ?_; clear hdig; rintro e w2 ⟨rfl, hw2⟩; have hw2 := hw2.symm; subst hw2)
              | (at_builtin; refine wpList_append_byte _ rfl _ _ rfl w.heap.size a ds.length c ds rfl (World.ownsRow.alloc HD.out.row _) wr.heap.size ((y : Int) - 48) (by omega) (by omega) rfl (heap_alloc_new wr _) (by omega) (by simp; omega) ?_; intro a3 c3 w3 hr3 hg3; rw [e9, ← HL2.out] at hr3; obtain ⟨hdd, hD3⟩ := HD.out.digit hr3 hg3; obtain ⟨cd0', cd1', fd0', fd1'⟩ := dec_cells hdd; rw [HL2.out] at hD3; obtain ⟨ce0, ce1, fe0, fe1⟩ := dec_cells hD3.d))
            go_roundw
            case rel => exact ⟨k + 1, n + 1, p - 1, true, ds ++ [UInt8.ofNat (y - 48)], a3, c3, by omega, by go_num, by go_num, by omega, by rw [HL2.out]; omega, by omega, rfl, HSC.out, hD3.power (p - 1)⟩
            case measure => simp [intOf]; omega
      · have hsc := hI.out.1
        have hD := hI.out.2
        rw [drop_byte s k hlt, scanD, if_neg hd] at hsc
        have hdig := isDigit_no (b := (s[k].toNat : Int)) wr (by omega)
        by_cases hpo : s[k].toNat = 46 ∧ pt = false
        · rw [if_pos hpo] at hsc
          have HSC : Hid _ := hsc
          have HD : Hid (DecAt w wr a c ds p) := hD
          obtain ⟨h46, rfl⟩ := hpo
          have hdig := isDigit_no (b := 46) wr (by omega)
          clear hI hD hsc hd
          go_wp2_with (go_at_call 86; refine hdig.mono ?_; clear hdig; rintro e w2 ⟨rfl, hw2⟩; have hw2 := hw2.symm; subst hw2)
          go_roundw
          case rel => exact ⟨k + 1, n, p, true, ds, a, c, by omega, by go_num, rfl, by omega, by omega, by omega, rfl, HSC.out, HD.out⟩
          case measure => simp [intOf]; omega
        · rw [if_neg hpo] at hsc
          have HDR : Hid (decR s = if n = 0 then none else if s[k].toNat = 101 ∨ s[k].toNat = 69 then (if (expR (s.extract (k + 1) s.size)).2 then some (ds, p + (expR (s.extract (k + 1) s.size)).1) else none) else none) := by
            show _ = _
            unfold decR
            rw [← hsc, ← ext_drop]
          have hxs : (s.extract (k + 1) s.size).size ≤ 1000000 := by simp; omega
          have HEX : Hid (∀ W, Calls Tryz.prog 87 #[.string (s.extract (k + 1) s.size)] W fun e w' => e = .returned (.tuple #[.int .i64 (expR (s.extract (k + 1) s.size)).1, .bool (expR (s.extract (k + 1) s.size)).2]) ∧ ∃ q, w' = W.drewN q) := fun W => readExponent_any _ W hxs
          have hel := expR_le (s.extract (k + 1) s.size)
          obtain ⟨e1, he1⟩ : ∃ e1, e1 = (expR (s.extract (k + 1) s.size)).1 := ⟨_, rfl⟩
          obtain ⟨ok, hok⟩ : ∃ ok, ok = (expR (s.extract (k + 1) s.size)).2 := ⟨_, rfl⟩
          rw [← he1, ← hok] at HEX HDR
          rw [← he1] at hel
          clear he1 hok hxs
          obtain ⟨cr0, cr1, fr0, fr1⟩ := dec_cells hD.r
          obtain ⟨cd0, cd1, fd0, fd1⟩ := dec_cells hD.d
          have HD : Hid (DecAt w wr a c ds p) := hD
          clear hI hD hsc
          generalize hyy : s[k].toNat = y at *
          have hdI : ¬ (48 ≤ (y : Int) ∧ (y : Int) ≤ 57) := by omega
          by_cases h46 : y = 46
          · have hpt : pt = true := by
              cases pt
              · exact absurd ⟨h46, rfl⟩ hpo
              · rfl
            subst hpt
            subst h46
            have hdig := isDigit_no (b := 46) wr (by omega)
            clear hd hpo HEX
            by_cases hn0 : n = 0
            · subst hn0
              rw [if_pos rfl] at HDR
              go_wp2_with (go_at_call 86; refine hdig.mono ?_; clear hdig; rintro e w2 ⟨rfl, hw2⟩; have hw2 := hw2.symm; subst hw2)
              rw [Exit.noGoto_ret]
              obtain ⟨o1, o2, o3⟩ := HD.out.out (.slice none 0 0) (.int .i64 0)
              refine bodyPost_ret (res_dec _ _ false rfl rfl _ _ _ o1) rfl ⟨?_, o3⟩
              rw [HDR.out]
              exact ⟨_, _, _, _, rfl⟩
            · rw [if_neg hn0, if_neg (by omega)] at HDR
              go_wp2_with (go_at_call 86; refine hdig.mono ?_; clear hdig; rintro e w2 ⟨rfl, hw2⟩; have hw2 := hw2.symm; subst hw2)
              rw [Exit.noGoto_ret]
              obtain ⟨o1, o2, o3⟩ := HD.out.out (.slice none 0 0) (.int .i64 0)
              refine bodyPost_ret (res_dec _ _ false rfl rfl _ _ _ o1) rfl ⟨?_, o3⟩
              rw [HDR.out]
              exact ⟨_, _, _, _, rfl⟩
          · have h46' : ((y : Int) == 46) = false := by simp; omega
            clear hpo
            by_cases hn0 : n = 0
            · subst hn0
              rw [if_pos rfl] at HDR
              clear HEX hd
              go_wp2_with (go_at_call 86; refine hdig.mono ?_; clear hdig; rintro e w2 ⟨rfl, hw2⟩; have hw2 := hw2.symm; subst hw2)
              rw [Exit.noGoto_ret]
              obtain ⟨o1, o2, o3⟩ := HD.out.out (.slice none 0 0) (.int .i64 0)
              refine bodyPost_ret (res_dec _ _ false rfl rfl _ _ _ o1) rfl ⟨?_, o3⟩
              rw [HDR.out]
              exact ⟨_, _, _, _, rfl⟩
            · rw [if_neg hn0] at HDR
              by_cases h101 : y = 101
              · subst h101
                rw [if_pos (Or.inl rfl)] at HDR
                have hdig := isDigit_no (b := 101) wr (by omega)
                clear hd
                have hD := HD.out
                go_wp2_with (first
                  | (go_at_call 86; refine hdig.mono ?_; clear hdig; rintro e w2 ⟨rfl, hw2⟩; have hw2 := hw2.symm; subst hw2)
                  | (go_at_call 87; refine (HEX.out _).mono ?_; clear HEX; rintro e w2 ⟨rfl, q, rfl⟩; have HDq := HD.out.drewN q; have HDp := HDq.power (p + e1); obtain ⟨ca0, ca1, fa0, fa1⟩ := dec_cells HDq.d; obtain ⟨cb0, cb1, fb0, fb1⟩ := dec_cells HDp.d; obtain ⟨cc0, cc1, fc0, fc1⟩ := dec_cells HDp.r))
                rw [Exit.noGoto_ret]
                obtain ⟨o1, o2, o3⟩ := HDp.out (.slice a ds.length c) (.int .i64 (p + e1))
                refine bodyPost_ret (res_dec _ _ ok rfl rfl _ _ _ o1) rfl ⟨?_, o3⟩
                rw [HDR.out]
                cases ok with
                | false => exact ⟨_, _, _, _, rfl⟩
                | true => exact ⟨a, c, rfl, o2⟩
              · by_cases h69 : y = 69
                · subst h69
                  rw [if_pos (Or.inr rfl)] at HDR
                  have hdig := isDigit_no (b := 69) wr (by omega)
                  clear hd
                  have hD := HD.out
                  go_wp2_with (first
                    | (go_at_call 86; refine hdig.mono ?_; clear hdig; rintro e w2 ⟨rfl, hw2⟩; have hw2 := hw2.symm; subst hw2)
                    | (go_at_call 87; refine (HEX.out _).mono ?_; clear HEX; rintro e w2 ⟨rfl, q, rfl⟩; have HDq := HD.out.drewN q; have HDp := HDq.power (p + e1); obtain ⟨ca0, ca1, fa0, fa1⟩ := dec_cells HDq.d; obtain ⟨cb0, cb1, fb0, fb1⟩ := dec_cells HDp.d; obtain ⟨cc0, cc1, fc0, fc1⟩ := dec_cells HDp.r))
                  rw [Exit.noGoto_ret]
                  obtain ⟨o1, o2, o3⟩ := HDp.out (.slice a ds.length c) (.int .i64 (p + e1))
                  refine bodyPost_ret (res_dec _ _ ok rfl rfl _ _ _ o1) rfl ⟨?_, o3⟩
                  rw [HDR.out]
                  cases ok with
                  | false => exact ⟨_, _, _, _, rfl⟩
                  | true => exact ⟨a, c, rfl, o2⟩
                · rw [if_neg (by omega)] at HDR
                  have h101' : ((y : Int) == 101) = false := by simp; omega
                  have h69' : ((y : Int) == 69) = false := by simp; omega
                  have hb1 : ((y : Int) != 101) = true := by simp; omega
                  have hb2 : ((y : Int) != 69) = true := by simp; omega
                  clear HEX hd
                  go_wp2_with (go_at_call 86; refine hdig.mono ?_; clear hdig; rintro e w2 ⟨rfl, hw2⟩; have hw2 := hw2.symm; subst hw2)
                  rw [Exit.noGoto_ret]
                  obtain ⟨o1, o2, o3⟩ := HD.out.out (.slice none 0 0) (.int .i64 0)
                  refine bodyPost_ret (res_dec _ _ false rfl rfl _ _ _ o1) rfl ⟨?_, o3⟩
                  rw [HDR.out]
                  exact ⟨_, _, _, _, rfl⟩
    · obtain rfl : k = s.size := by omega
      have hsc := hI.out.1
      have hD := hI.out.2
      rw [List.drop_of_length_le (by simp), scanD] at hsc
      have HDR : Hid (decR s = if n = 0 then none else some (ds, p)) := by
        show _ = _
        unfold decR
        rw [← hsc]
      obtain ⟨cr0, cr1, fr0, fr1⟩ := dec_cells hD.r
      obtain ⟨cd0, cd1, fd0, fd1⟩ := dec_cells hD.d
      have HD : Hid (DecAt w wr a c ds p) := hD
      clear hI hsc hD
      by_cases hn0 : n = 0
      · subst hn0
        rw [if_pos rfl] at HDR
        go_wp2
        rw [Exit.noGoto_ret]
        obtain ⟨o1, o2, o3⟩ := HD.out.out (.slice none 0 0) (.int .i64 0)
        refine bodyPost_ret (res_dec _ _ false rfl rfl _ _ _ o1) rfl ⟨?_, o3⟩
        rw [HDR.out]
        exact ⟨_, _, _, _, rfl⟩
      · rw [if_neg hn0] at HDR
        go_wp2
        rw [Exit.noGoto_ret]
        obtain ⟨o1, o2, o3⟩ := HD.out.out (.slice a ds.length c) (.int .i64 p)
        refine bodyPost_ret (res_dec _ _ true rfl rfl _ _ _ o1) rfl ⟨?_, o3⟩
        rw [HDR.out]
        exact ⟨a, c, rfl, o2⟩

end Go.Proofs.YtfckdleahljdeaaGreatDoor.Nu
