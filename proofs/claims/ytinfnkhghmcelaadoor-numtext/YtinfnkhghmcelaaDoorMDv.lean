/- Durations as texts, walked. -/
import Derived.Test.YtinfnkhghmcelaaDoorMDr
import Derived.Lib.ItoaLen
namespace Go.Proofs.YtinfnkhghmcelaaDoor
open Go.RowKit Go.Maps

theorem Bd.block {B b : Nat} {bs : List UInt8} {W : World} (h : Bd B b bs W) : ∃ c, W.heap[b]? = some (.cells c 91 (0, 0)) := by
  rcases h with ⟨_, v, h2, _⟩ | ⟨_, v, h2, _⟩
  · exact ⟨_, h2⟩
  · exact ⟨_, h2⟩
/-- A new Builder. -/
theorem Bd.fresh (w : World) : Bd w.heap.size w.heap.size [] (w.alloc (.cells #[.pointer none, .slice none 0 0] 91 (0, 0))) :=
  Or.inl ⟨Nat.le_refl _, .slice none 0 0, heap_alloc_new w _, ⟨rfl, Or.inl ⟨rfl, rfl⟩⟩, by simp [Value.ownBlock]⟩
theorem Bd.below {B b : Nat} {bs : List UInt8} {W W' : World} (h : Bd B b bs W) (hb : Below W.heap.size W W') : Bd B b bs W' := by
  have key : ∀ p, Lib.BuilderAtF 91 5 B b p (Lib.byteCells bs) W → Lib.BuilderAtF 91 5 B b p (Lib.byteCells bs) W' := fun p hp => by
    obtain ⟨h1, v, h2, h3, h4⟩ := hp
    refine ⟨h1, v, (hb.block b (Array.getElem?_eq_some_iff.1 h2).1).trans h2, ⟨h3.1, ?_⟩, h4⟩
    rcases h3.2 with h5 | ⟨g, cap, cur, fz, e1, e2, e3, e4⟩
    · exact Or.inl h5
    · exact Or.inr ⟨g, cap, cur, fz, e1, e2, (hb.block g (Array.getElem?_eq_some_iff.1 e3).1).trans e3, e4⟩
  exact h.elim (fun x => Or.inl (key _ x)) (fun x => Or.inr (key _ x))

theorem unit_cells {w : World} {b : Nat} {v0 v1 : Value} (h : w.heap[b]? = some (.cells #[v0, v1] 97 (0, 0))) : w.cell? ⟨b, 0, none⟩ = some v0 ∧ w.cell? ⟨b, 1, none⟩ = some v1 := by simp [World.cell?, h]
theorem unit_kept {B b x : Nat} {bs : List UInt8} {W W' : World} {v0 v1 : Value} (h : BK B b W W') (hb : Bd B b bs W) (hx : W.heap[x]? = some (.cells #[v0, v1] 97 (0, 0))) : W'.heap[x]? = some (.cells #[v0, v1] 97 (0, 0)) :=
  h.others x _ hx (fun e => by
    cases e
    obtain ⟨c, hc⟩ := hb.block
    rw [hc] at hx
    injection hx with h9
    injection h9 with _ h8
    exact absurd h8 (by decide)) (fun c fz e => by
    injection e with _ h8
    exact absurd h8 (by decide))
theorem dec_len (n : Nat) (h : n < 18446744073709551616) : (Lib.decDigits n).length ≤ 20 := by
  rw [Lib.decDigits_length]
  exact Lib.nDigits_le20 n h

set_option maxRecDepth 100000 in
set_option maxHeartbeats 8000000 in
theorem dur_neg (ms : Int) (n lim : Nat) (w : World) (hn : n ≤ 9223372036854775808) (hU : Units w) (HFU : Hid (∀ i, i < lim → ∀ W : World, Below w.heap.size w W → Calls Tryd.prog 57 #[.int .u64 i, .int .i64 10] W fun e w' => e = .returned (.string ⟨(Lib.decDigits i).toArray⟩) ∧ Below W.heap.size W w')) (HLIM : Hid (∀ k u, unitsL[k]? = some u → (durK n k).2 / u.2 < lim))
    (hms : ms < 0) (hna : n = ms.natAbs) (hr1 : -9223372036854775808 ≤ ms) (hr2 : ms ≤ 9223372036854775807) :
    Calls Tryd.prog 31 #[.int .i64 ms] w fun e w' => e = .returned (.string ⟨([45] ++ (durK n 7).1).toArray⟩) ∧ Below w.heap.size w w' := by
  have HSZ : Hid (∀ W : World, Calls Tryd.prog 55 #[.int .i64 ms] W fun e w' => e = .returned (.int .u64 (n : Nat)) ∧ w' = W) := fun W => by rw [hna]; exact size_any ms W hr1 hr2
  have h0 : (ms == 0) = false := by rw [beq_eq_false_iff_ne]; omega
  have HFR : Hid (Bd w.heap.size w.heap.size [] (w.alloc (.cells #[.pointer none, .slice none 0 0] 91 (0, 0)))) := Bd.fresh w
  have HUN : Hid (Units w) := hU
  have hz : ∀ h, (Tryd.prog.types[97]'h).size = 2 := fun _ => by kernel_rfl
  clear hU hna
  go_enter Tryd.func31, Tryd.ntmps31
  go_wp2_with (first
    | (go_at_call 54; refine (wb_lit _ _ [] 45 45 rfl _ HFR.out (by simp) (by simp)).mono ?_; rintro e w1 ⟨rfl, hB1, hk1⟩; have HB1 : Hid (Bd w.heap.size w.heap.size [45] w1) := hB1; have HBL : Hid (Below w.heap.size w w1) := ((Below.refl _ _).alloc (Nat.le_refl _) _).trans hk1.below; clear hB1 hk1; obtain ⟨z0, z1, z2, z3, z4, z5, z6, z7, z8, z9, z10, z11, z12, z13, z14⟩ := HUN.out.below HBL.out)
    | (go_at_call 55; refine (HSZ.out _).mono ?_; rintro e w2 ⟨rfl, hw2⟩; have hw2 := hw2.symm; subst hw2))
  go_loopw [4, 16] (fun l i wr => ∃ k : Nat, k ≤ 7 ∧ i = .int .i64 k ∧ l = .int .u64 ((durK n k).2 : Nat) ∧ (durK n k).1.length ≤ 22 * k ∧ (durK n k).2 ≤ 9223372036854775808 ∧ Hid (Bd w.heap.size w.heap.size ([45] ++ (durK n k).1) wr) ∧ Hid (Below w.heap.size w wr)) (fun _ i _ => 7 - (intOf i).toNat)
  case atStart => exact ⟨0, by decide, rfl, rfl, by simp [durK], hn, (by show Bd _ _ _ _; simpa [durK] using HB1.out), HBL.out⟩
  case round =>
    clear HBL HB1 HFR HSZ HUN h0
    obtain ⟨k, hk, rfl, rfl, hdl, hll, hBd, HBL⟩ := hrel
    rcases (show k = 0 ∨ k = 1 ∨ k = 2 ∨ k = 3 ∨ k = 4 ∨ k = 5 ∨ k = 6 ∨ k = 7 by omega) with rfl | rfl | rfl | rfl | rfl | rfl | rfl | rfl
    · have hst := durK_succ n 0 (by decide) ([121], 31536000000) rfl
      have hcl : (durK n 0).2 / 31536000000 < lim := HLIM.out 0 ([121], 31536000000) rfl
      obtain ⟨L, hL⟩ : ∃ L, L = (durK n 0).2 := ⟨_, rfl⟩
      obtain ⟨D, hD⟩ : ∃ D, D = (durK n 0).1 := ⟨_, rfl⟩
      rw [← hL] at hcl hll ⊢
      rw [← hD] at hBd hdl
      have hst2 : durK n (0 + 1) = (D ++ (if 0 < L / 31536000000 then Lib.decDigits (L / 31536000000) ++ [121] else []), L % 31536000000) := by rw [hst, hL, hD]; rfl
      have HBD : Hid (Bd w.heap.size w.heap.size ([45] ++ D) wr) := hBd
      have hix : ∀ W : World, (Instr.index 98 (.agg #[.string ⟨#[121]⟩, .int .i64 31536000000, .string ⟨#[119]⟩, .int .i64 604800000, .string ⟨#[100]⟩, .int .i64 86400000, .string ⟨#[104]⟩, .int .i64 3600000, .string ⟨#[109]⟩, .int .i64 60000, .string ⟨#[115]⟩, .int .i64 1000, .string ⟨#[109, 115]⟩, .int .i64 1]) (.int .i64 0)).run Tryd.prog W = .ok (.agg #[.string ⟨#[121]⟩, .int .i64 31536000000]) W := fun W => by kernel_rfl
      clear hst hL hD hBd
      by_cases hpos : 0 < L / 31536000000
      · rw [if_pos hpos] at hst2
        have HST : Hid (durK n (0 + 1) = (D ++ (Lib.decDigits (L / 31536000000) ++ [121]), L % 31536000000)) := hst2
        have hdd : (Lib.decDigits (L / 31536000000)).length ≤ 20 := dec_len _ (by omega)
        obtain ⟨dd, hdd2⟩ : ∃ dd, dd = Lib.decDigits (L / 31536000000) := ⟨_, rfl⟩
        have hfu := HFU.out (L / 31536000000) hcl
        have hec : (((L / 31536000000 : Nat)) : Int) = (L : Int) / 31536000000 := by omega
        rw [← hdd2, hec] at hfu
        rw [← hdd2] at HST hdd
        clear hst2 hdd2
        have hqp : (0 : Int) < (L : Int) / 31536000000 := by omega
        go_wp2_with (first
          | (go_at_call 57; refine (hfu _ (HBL.out.alloc HBL.out.size _)).mono ?_; clear hfu; rintro e w2 ⟨rfl, hb2⟩; have HB2 : Hid (Bd w.heap.size w.heap.size ([45] ++ D) w2) := HBD.out.below (((Below.refl _ _).alloc (Nat.le_refl _) _).trans (hb2.mono (by simp))); have HX2 : Hid (w2.heap[wr.heap.size]? = some (.cells #[.string ⟨#[121]⟩, .int .i64 31536000000] 97 (0, 0))) := (hb2.block wr.heap.size (by simp)).trans (heap_alloc_new wr _); have HW2 : Hid (Below w.heap.size w w2) := (HBL.out.alloc HBL.out.size _).trans (hb2.mono (by simp; exact Nat.le_succ_of_le HBL.out.size)); clear hb2)
          | (go_at_call 56; refine (ws_any _ _ ([45] ++ D) ⟨dd.toArray⟩ _ HB2.out (by simp <;> omega) (by simp [ByteArray.size] <;> omega) HW2.out.size).mono ?_; rintro e w3 ⟨rfl, hB3, hk3⟩; have HB3 : Hid (Bd w.heap.size w.heap.size ([45] ++ D ++ dd) w3) := (by show Bd _ _ _ _; simpa using hB3); have HX3 : Hid _ := unit_kept hk3 HB2.out HX2.out; have HW3 : Hid (Below w.heap.size w w3) := HW2.out.trans hk3.below; clear hB3 hk3 HB2 HX2 HW2; obtain ⟨x0, x1⟩ := unit_cells HX3.out)
          | (go_at_call 56; refine (ws_any _ _ ([45] ++ D ++ dd) ⟨#[121]⟩ _ HB3.out (by simp <;> omega) (by decide) HW3.out.size).mono ?_; rintro e w4 ⟨rfl, hB4, hk4⟩; have HB4 : Hid (Bd w.heap.size w.heap.size ([45] ++ (D ++ (dd ++ [121]))) w4) := (by show Bd _ _ _ _; simpa using hB4); have HX4 : Hid _ := unit_kept hk4 HB3.out HX3.out; have HW4 : Hid (Below w.heap.size w w4) := HW3.out.trans hk4.below; clear hB4 hk4 HB3 HX3 HW3; obtain ⟨y0, y1⟩ := unit_cells HX4.out))
        go_roundw
        case rel => exact ⟨1, by decide, rfl, by rw [HST.out]; rfl, by rw [HST.out]; simp; omega, by rw [HST.out]; exact Nat.le_trans (Nat.mod_le _ _) hll, by rw [HST.out]; exact HB4.out, HW4.out⟩
        case measure => simp [intOf]
      · rw [if_neg hpos] at hst2
        have HST : Hid (durK n (0 + 1) = (D, L % 31536000000)) := by rw [List.append_nil] at hst2; exact hst2
        have hq1 : ((L : Int) / 31536000000) = 0 := by omega
        clear hst2
        go_wp2
        go_roundw
        case rel => exact ⟨1, by decide, rfl, by rw [HST.out]; rfl, by rw [HST.out]; show D.length ≤ _; omega, by rw [HST.out]; exact Nat.le_trans (Nat.mod_le _ _) hll, by rw [HST.out]; exact HBD.out.below ((Below.refl _ _).alloc (Nat.le_refl _) _), HBL.out.alloc HBL.out.size _⟩
        case measure => simp [intOf]
    · have hst := durK_succ n 1 (by decide) ([119], 604800000) rfl
      have hcl : (durK n 1).2 / 604800000 < lim := HLIM.out 1 ([119], 604800000) rfl
      obtain ⟨L, hL⟩ : ∃ L, L = (durK n 1).2 := ⟨_, rfl⟩
      obtain ⟨D, hD⟩ : ∃ D, D = (durK n 1).1 := ⟨_, rfl⟩
      rw [← hL] at hcl hll ⊢
      rw [← hD] at hBd hdl
      have hst2 : durK n (1 + 1) = (D ++ (if 0 < L / 604800000 then Lib.decDigits (L / 604800000) ++ [119] else []), L % 604800000) := by rw [hst, hL, hD]; rfl
      have HBD : Hid (Bd w.heap.size w.heap.size ([45] ++ D) wr) := hBd
      have hix : ∀ W : World, (Instr.index 98 (.agg #[.string ⟨#[121]⟩, .int .i64 31536000000, .string ⟨#[119]⟩, .int .i64 604800000, .string ⟨#[100]⟩, .int .i64 86400000, .string ⟨#[104]⟩, .int .i64 3600000, .string ⟨#[109]⟩, .int .i64 60000, .string ⟨#[115]⟩, .int .i64 1000, .string ⟨#[109, 115]⟩, .int .i64 1]) (.int .i64 1)).run Tryd.prog W = .ok (.agg #[.string ⟨#[119]⟩, .int .i64 604800000]) W := fun W => by kernel_rfl
      clear hst hL hD hBd
      by_cases hpos : 0 < L / 604800000
      · rw [if_pos hpos] at hst2
        have HST : Hid (durK n (1 + 1) = (D ++ (Lib.decDigits (L / 604800000) ++ [119]), L % 604800000)) := hst2
        have hdd : (Lib.decDigits (L / 604800000)).length ≤ 20 := dec_len _ (by omega)
        obtain ⟨dd, hdd2⟩ : ∃ dd, dd = Lib.decDigits (L / 604800000) := ⟨_, rfl⟩
        have hfu := HFU.out (L / 604800000) hcl
        have hec : (((L / 604800000 : Nat)) : Int) = (L : Int) / 604800000 := by omega
        rw [← hdd2, hec] at hfu
        rw [← hdd2] at HST hdd
        clear hst2 hdd2
        have hqp : (0 : Int) < (L : Int) / 604800000 := by omega
        go_wp2_with (first
          | (go_at_call 57; refine (hfu _ (HBL.out.alloc HBL.out.size _)).mono ?_; clear hfu; rintro e w2 ⟨rfl, hb2⟩; have HB2 : Hid (Bd w.heap.size w.heap.size ([45] ++ D) w2) := HBD.out.below (((Below.refl _ _).alloc (Nat.le_refl _) _).trans (hb2.mono (by simp))); have HX2 : Hid (w2.heap[wr.heap.size]? = some (.cells #[.string ⟨#[119]⟩, .int .i64 604800000] 97 (0, 0))) := (hb2.block wr.heap.size (by simp)).trans (heap_alloc_new wr _); have HW2 : Hid (Below w.heap.size w w2) := (HBL.out.alloc HBL.out.size _).trans (hb2.mono (by simp; exact Nat.le_succ_of_le HBL.out.size)); clear hb2)
          | (go_at_call 56; refine (ws_any _ _ ([45] ++ D) ⟨dd.toArray⟩ _ HB2.out (by simp <;> omega) (by simp [ByteArray.size] <;> omega) HW2.out.size).mono ?_; rintro e w3 ⟨rfl, hB3, hk3⟩; have HB3 : Hid (Bd w.heap.size w.heap.size ([45] ++ D ++ dd) w3) := (by show Bd _ _ _ _; simpa using hB3); have HX3 : Hid _ := unit_kept hk3 HB2.out HX2.out; have HW3 : Hid (Below w.heap.size w w3) := HW2.out.trans hk3.below; clear hB3 hk3 HB2 HX2 HW2; obtain ⟨x0, x1⟩ := unit_cells HX3.out)
          | (go_at_call 56; refine (ws_any _ _ ([45] ++ D ++ dd) ⟨#[119]⟩ _ HB3.out (by simp <;> omega) (by decide) HW3.out.size).mono ?_; rintro e w4 ⟨rfl, hB4, hk4⟩; have HB4 : Hid (Bd w.heap.size w.heap.size ([45] ++ (D ++ (dd ++ [119]))) w4) := (by show Bd _ _ _ _; simpa using hB4); have HX4 : Hid _ := unit_kept hk4 HB3.out HX3.out; have HW4 : Hid (Below w.heap.size w w4) := HW3.out.trans hk4.below; clear hB4 hk4 HB3 HX3 HW3; obtain ⟨y0, y1⟩ := unit_cells HX4.out))
        go_roundw
        case rel => exact ⟨2, by decide, rfl, by rw [HST.out]; rfl, by rw [HST.out]; simp; omega, by rw [HST.out]; exact Nat.le_trans (Nat.mod_le _ _) hll, by rw [HST.out]; exact HB4.out, HW4.out⟩
        case measure => simp [intOf]
      · rw [if_neg hpos] at hst2
        have HST : Hid (durK n (1 + 1) = (D, L % 604800000)) := by rw [List.append_nil] at hst2; exact hst2
        have hq1 : ((L : Int) / 604800000) = 0 := by omega
        clear hst2
        go_wp2
        go_roundw
        case rel => exact ⟨2, by decide, rfl, by rw [HST.out]; rfl, by rw [HST.out]; show D.length ≤ _; omega, by rw [HST.out]; exact Nat.le_trans (Nat.mod_le _ _) hll, by rw [HST.out]; exact HBD.out.below ((Below.refl _ _).alloc (Nat.le_refl _) _), HBL.out.alloc HBL.out.size _⟩
        case measure => simp [intOf]
    · have hst := durK_succ n 2 (by decide) ([100], 86400000) rfl
      have hcl : (durK n 2).2 / 86400000 < lim := HLIM.out 2 ([100], 86400000) rfl
      obtain ⟨L, hL⟩ : ∃ L, L = (durK n 2).2 := ⟨_, rfl⟩
      obtain ⟨D, hD⟩ : ∃ D, D = (durK n 2).1 := ⟨_, rfl⟩
      rw [← hL] at hcl hll ⊢
      rw [← hD] at hBd hdl
      have hst2 : durK n (2 + 1) = (D ++ (if 0 < L / 86400000 then Lib.decDigits (L / 86400000) ++ [100] else []), L % 86400000) := by rw [hst, hL, hD]; rfl
      have HBD : Hid (Bd w.heap.size w.heap.size ([45] ++ D) wr) := hBd
      have hix : ∀ W : World, (Instr.index 98 (.agg #[.string ⟨#[121]⟩, .int .i64 31536000000, .string ⟨#[119]⟩, .int .i64 604800000, .string ⟨#[100]⟩, .int .i64 86400000, .string ⟨#[104]⟩, .int .i64 3600000, .string ⟨#[109]⟩, .int .i64 60000, .string ⟨#[115]⟩, .int .i64 1000, .string ⟨#[109, 115]⟩, .int .i64 1]) (.int .i64 2)).run Tryd.prog W = .ok (.agg #[.string ⟨#[100]⟩, .int .i64 86400000]) W := fun W => by kernel_rfl
      clear hst hL hD hBd
      by_cases hpos : 0 < L / 86400000
      · rw [if_pos hpos] at hst2
        have HST : Hid (durK n (2 + 1) = (D ++ (Lib.decDigits (L / 86400000) ++ [100]), L % 86400000)) := hst2
        have hdd : (Lib.decDigits (L / 86400000)).length ≤ 20 := dec_len _ (by omega)
        obtain ⟨dd, hdd2⟩ : ∃ dd, dd = Lib.decDigits (L / 86400000) := ⟨_, rfl⟩
        have hfu := HFU.out (L / 86400000) hcl
        have hec : (((L / 86400000 : Nat)) : Int) = (L : Int) / 86400000 := by omega
        rw [← hdd2, hec] at hfu
        rw [← hdd2] at HST hdd
        clear hst2 hdd2
        have hqp : (0 : Int) < (L : Int) / 86400000 := by omega
        go_wp2_with (first
          | (go_at_call 57; refine (hfu _ (HBL.out.alloc HBL.out.size _)).mono ?_; clear hfu; rintro e w2 ⟨rfl, hb2⟩; have HB2 : Hid (Bd w.heap.size w.heap.size ([45] ++ D) w2) := HBD.out.below (((Below.refl _ _).alloc (Nat.le_refl _) _).trans (hb2.mono (by simp))); have HX2 : Hid (w2.heap[wr.heap.size]? = some (.cells #[.string ⟨#[100]⟩, .int .i64 86400000] 97 (0, 0))) := (hb2.block wr.heap.size (by simp)).trans (heap_alloc_new wr _); have HW2 : Hid (Below w.heap.size w w2) := (HBL.out.alloc HBL.out.size _).trans (hb2.mono (by simp; exact Nat.le_succ_of_le HBL.out.size)); clear hb2)
          | (go_at_call 56; refine (ws_any _ _ ([45] ++ D) ⟨dd.toArray⟩ _ HB2.out (by simp <;> omega) (by simp [ByteArray.size] <;> omega) HW2.out.size).mono ?_; rintro e w3 ⟨rfl, hB3, hk3⟩; have HB3 : Hid (Bd w.heap.size w.heap.size ([45] ++ D ++ dd) w3) := (by show Bd _ _ _ _; simpa using hB3); have HX3 : Hid _ := unit_kept hk3 HB2.out HX2.out; have HW3 : Hid (Below w.heap.size w w3) := HW2.out.trans hk3.below; clear hB3 hk3 HB2 HX2 HW2; obtain ⟨x0, x1⟩ := unit_cells HX3.out)
          | (go_at_call 56; refine (ws_any _ _ ([45] ++ D ++ dd) ⟨#[100]⟩ _ HB3.out (by simp <;> omega) (by decide) HW3.out.size).mono ?_; rintro e w4 ⟨rfl, hB4, hk4⟩; have HB4 : Hid (Bd w.heap.size w.heap.size ([45] ++ (D ++ (dd ++ [100]))) w4) := (by show Bd _ _ _ _; simpa using hB4); have HX4 : Hid _ := unit_kept hk4 HB3.out HX3.out; have HW4 : Hid (Below w.heap.size w w4) := HW3.out.trans hk4.below; clear hB4 hk4 HB3 HX3 HW3; obtain ⟨y0, y1⟩ := unit_cells HX4.out))
        go_roundw
        case rel => exact ⟨3, by decide, rfl, by rw [HST.out]; rfl, by rw [HST.out]; simp; omega, by rw [HST.out]; exact Nat.le_trans (Nat.mod_le _ _) hll, by rw [HST.out]; exact HB4.out, HW4.out⟩
        case measure => simp [intOf]
      · rw [if_neg hpos] at hst2
        have HST : Hid (durK n (2 + 1) = (D, L % 86400000)) := by rw [List.append_nil] at hst2; exact hst2
        have hq1 : ((L : Int) / 86400000) = 0 := by omega
        clear hst2
        go_wp2
        go_roundw
        case rel => exact ⟨3, by decide, rfl, by rw [HST.out]; rfl, by rw [HST.out]; show D.length ≤ _; omega, by rw [HST.out]; exact Nat.le_trans (Nat.mod_le _ _) hll, by rw [HST.out]; exact HBD.out.below ((Below.refl _ _).alloc (Nat.le_refl _) _), HBL.out.alloc HBL.out.size _⟩
        case measure => simp [intOf]
    · have hst := durK_succ n 3 (by decide) ([104], 3600000) rfl
      have hcl : (durK n 3).2 / 3600000 < lim := HLIM.out 3 ([104], 3600000) rfl
      obtain ⟨L, hL⟩ : ∃ L, L = (durK n 3).2 := ⟨_, rfl⟩
      obtain ⟨D, hD⟩ : ∃ D, D = (durK n 3).1 := ⟨_, rfl⟩
      rw [← hL] at hcl hll ⊢
      rw [← hD] at hBd hdl
      have hst2 : durK n (3 + 1) = (D ++ (if 0 < L / 3600000 then Lib.decDigits (L / 3600000) ++ [104] else []), L % 3600000) := by rw [hst, hL, hD]; rfl
      have HBD : Hid (Bd w.heap.size w.heap.size ([45] ++ D) wr) := hBd
      have hix : ∀ W : World, (Instr.index 98 (.agg #[.string ⟨#[121]⟩, .int .i64 31536000000, .string ⟨#[119]⟩, .int .i64 604800000, .string ⟨#[100]⟩, .int .i64 86400000, .string ⟨#[104]⟩, .int .i64 3600000, .string ⟨#[109]⟩, .int .i64 60000, .string ⟨#[115]⟩, .int .i64 1000, .string ⟨#[109, 115]⟩, .int .i64 1]) (.int .i64 3)).run Tryd.prog W = .ok (.agg #[.string ⟨#[104]⟩, .int .i64 3600000]) W := fun W => by kernel_rfl
      clear hst hL hD hBd
      by_cases hpos : 0 < L / 3600000
      · rw [if_pos hpos] at hst2
        have HST : Hid (durK n (3 + 1) = (D ++ (Lib.decDigits (L / 3600000) ++ [104]), L % 3600000)) := hst2
        have hdd : (Lib.decDigits (L / 3600000)).length ≤ 20 := dec_len _ (by omega)
        obtain ⟨dd, hdd2⟩ : ∃ dd, dd = Lib.decDigits (L / 3600000) := ⟨_, rfl⟩
        have hfu := HFU.out (L / 3600000) hcl
        have hec : (((L / 3600000 : Nat)) : Int) = (L : Int) / 3600000 := by omega
        rw [← hdd2, hec] at hfu
        rw [← hdd2] at HST hdd
        clear hst2 hdd2
        have hqp : (0 : Int) < (L : Int) / 3600000 := by omega
        go_wp2_with (first
          | (go_at_call 57; refine (hfu _ (HBL.out.alloc HBL.out.size _)).mono ?_; clear hfu; rintro e w2 ⟨rfl, hb2⟩; have HB2 : Hid (Bd w.heap.size w.heap.size ([45] ++ D) w2) := HBD.out.below (((Below.refl _ _).alloc (Nat.le_refl _) _).trans (hb2.mono (by simp))); have HX2 : Hid (w2.heap[wr.heap.size]? = some (.cells #[.string ⟨#[104]⟩, .int .i64 3600000] 97 (0, 0))) := (hb2.block wr.heap.size (by simp)).trans (heap_alloc_new wr _); have HW2 : Hid (Below w.heap.size w w2) := (HBL.out.alloc HBL.out.size _).trans (hb2.mono (by simp; exact Nat.le_succ_of_le HBL.out.size)); clear hb2)
          | (go_at_call 56; refine (ws_any _ _ ([45] ++ D) ⟨dd.toArray⟩ _ HB2.out (by simp <;> omega) (by simp [ByteArray.size] <;> omega) HW2.out.size).mono ?_; rintro e w3 ⟨rfl, hB3, hk3⟩; have HB3 : Hid (Bd w.heap.size w.heap.size ([45] ++ D ++ dd) w3) := (by show Bd _ _ _ _; simpa using hB3); have HX3 : Hid _ := unit_kept hk3 HB2.out HX2.out; have HW3 : Hid (Below w.heap.size w w3) := HW2.out.trans hk3.below; clear hB3 hk3 HB2 HX2 HW2; obtain ⟨x0, x1⟩ := unit_cells HX3.out)
          | (go_at_call 56; refine (ws_any _ _ ([45] ++ D ++ dd) ⟨#[104]⟩ _ HB3.out (by simp <;> omega) (by decide) HW3.out.size).mono ?_; rintro e w4 ⟨rfl, hB4, hk4⟩; have HB4 : Hid (Bd w.heap.size w.heap.size ([45] ++ (D ++ (dd ++ [104]))) w4) := (by show Bd _ _ _ _; simpa using hB4); have HX4 : Hid _ := unit_kept hk4 HB3.out HX3.out; have HW4 : Hid (Below w.heap.size w w4) := HW3.out.trans hk4.below; clear hB4 hk4 HB3 HX3 HW3; obtain ⟨y0, y1⟩ := unit_cells HX4.out))
        go_roundw
        case rel => exact ⟨4, by decide, rfl, by rw [HST.out]; rfl, by rw [HST.out]; simp; omega, by rw [HST.out]; exact Nat.le_trans (Nat.mod_le _ _) hll, by rw [HST.out]; exact HB4.out, HW4.out⟩
        case measure => simp [intOf]
      · rw [if_neg hpos] at hst2
        have HST : Hid (durK n (3 + 1) = (D, L % 3600000)) := by rw [List.append_nil] at hst2; exact hst2
        have hq1 : ((L : Int) / 3600000) = 0 := by omega
        clear hst2
        go_wp2
        go_roundw
        case rel => exact ⟨4, by decide, rfl, by rw [HST.out]; rfl, by rw [HST.out]; show D.length ≤ _; omega, by rw [HST.out]; exact Nat.le_trans (Nat.mod_le _ _) hll, by rw [HST.out]; exact HBD.out.below ((Below.refl _ _).alloc (Nat.le_refl _) _), HBL.out.alloc HBL.out.size _⟩
        case measure => simp [intOf]
    · have hst := durK_succ n 4 (by decide) ([109], 60000) rfl
      have hcl : (durK n 4).2 / 60000 < lim := HLIM.out 4 ([109], 60000) rfl
      obtain ⟨L, hL⟩ : ∃ L, L = (durK n 4).2 := ⟨_, rfl⟩
      obtain ⟨D, hD⟩ : ∃ D, D = (durK n 4).1 := ⟨_, rfl⟩
      rw [← hL] at hcl hll ⊢
      rw [← hD] at hBd hdl
      have hst2 : durK n (4 + 1) = (D ++ (if 0 < L / 60000 then Lib.decDigits (L / 60000) ++ [109] else []), L % 60000) := by rw [hst, hL, hD]; rfl
      have HBD : Hid (Bd w.heap.size w.heap.size ([45] ++ D) wr) := hBd
      have hix : ∀ W : World, (Instr.index 98 (.agg #[.string ⟨#[121]⟩, .int .i64 31536000000, .string ⟨#[119]⟩, .int .i64 604800000, .string ⟨#[100]⟩, .int .i64 86400000, .string ⟨#[104]⟩, .int .i64 3600000, .string ⟨#[109]⟩, .int .i64 60000, .string ⟨#[115]⟩, .int .i64 1000, .string ⟨#[109, 115]⟩, .int .i64 1]) (.int .i64 4)).run Tryd.prog W = .ok (.agg #[.string ⟨#[109]⟩, .int .i64 60000]) W := fun W => by kernel_rfl
      clear hst hL hD hBd
      by_cases hpos : 0 < L / 60000
      · rw [if_pos hpos] at hst2
        have HST : Hid (durK n (4 + 1) = (D ++ (Lib.decDigits (L / 60000) ++ [109]), L % 60000)) := hst2
        have hdd : (Lib.decDigits (L / 60000)).length ≤ 20 := dec_len _ (by omega)
        obtain ⟨dd, hdd2⟩ : ∃ dd, dd = Lib.decDigits (L / 60000) := ⟨_, rfl⟩
        have hfu := HFU.out (L / 60000) hcl
        have hec : (((L / 60000 : Nat)) : Int) = (L : Int) / 60000 := by omega
        rw [← hdd2, hec] at hfu
        rw [← hdd2] at HST hdd
        clear hst2 hdd2
        have hqp : (0 : Int) < (L : Int) / 60000 := by omega
        go_wp2_with (first
          | (go_at_call 57; refine (hfu _ (HBL.out.alloc HBL.out.size _)).mono ?_; clear hfu; rintro e w2 ⟨rfl, hb2⟩; have HB2 : Hid (Bd w.heap.size w.heap.size ([45] ++ D) w2) := HBD.out.below (((Below.refl _ _).alloc (Nat.le_refl _) _).trans (hb2.mono (by simp))); have HX2 : Hid (w2.heap[wr.heap.size]? = some (.cells #[.string ⟨#[109]⟩, .int .i64 60000] 97 (0, 0))) := (hb2.block wr.heap.size (by simp)).trans (heap_alloc_new wr _); have HW2 : Hid (Below w.heap.size w w2) := (HBL.out.alloc HBL.out.size _).trans (hb2.mono (by simp; exact Nat.le_succ_of_le HBL.out.size)); clear hb2)
          | (go_at_call 56; refine (ws_any _ _ ([45] ++ D) ⟨dd.toArray⟩ _ HB2.out (by simp <;> omega) (by simp [ByteArray.size] <;> omega) HW2.out.size).mono ?_; rintro e w3 ⟨rfl, hB3, hk3⟩; have HB3 : Hid (Bd w.heap.size w.heap.size ([45] ++ D ++ dd) w3) := (by show Bd _ _ _ _; simpa using hB3); have HX3 : Hid _ := unit_kept hk3 HB2.out HX2.out; have HW3 : Hid (Below w.heap.size w w3) := HW2.out.trans hk3.below; clear hB3 hk3 HB2 HX2 HW2; obtain ⟨x0, x1⟩ := unit_cells HX3.out)
          | (go_at_call 56; refine (ws_any _ _ ([45] ++ D ++ dd) ⟨#[109]⟩ _ HB3.out (by simp <;> omega) (by decide) HW3.out.size).mono ?_; rintro e w4 ⟨rfl, hB4, hk4⟩; have HB4 : Hid (Bd w.heap.size w.heap.size ([45] ++ (D ++ (dd ++ [109]))) w4) := (by show Bd _ _ _ _; simpa using hB4); have HX4 : Hid _ := unit_kept hk4 HB3.out HX3.out; have HW4 : Hid (Below w.heap.size w w4) := HW3.out.trans hk4.below; clear hB4 hk4 HB3 HX3 HW3; obtain ⟨y0, y1⟩ := unit_cells HX4.out))
        go_roundw
        case rel => exact ⟨5, by decide, rfl, by rw [HST.out]; rfl, by rw [HST.out]; simp; omega, by rw [HST.out]; exact Nat.le_trans (Nat.mod_le _ _) hll, by rw [HST.out]; exact HB4.out, HW4.out⟩
        case measure => simp [intOf]
      · rw [if_neg hpos] at hst2
        have HST : Hid (durK n (4 + 1) = (D, L % 60000)) := by rw [List.append_nil] at hst2; exact hst2
        have hq1 : ((L : Int) / 60000) = 0 := by omega
        clear hst2
        go_wp2
        go_roundw
        case rel => exact ⟨5, by decide, rfl, by rw [HST.out]; rfl, by rw [HST.out]; show D.length ≤ _; omega, by rw [HST.out]; exact Nat.le_trans (Nat.mod_le _ _) hll, by rw [HST.out]; exact HBD.out.below ((Below.refl _ _).alloc (Nat.le_refl _) _), HBL.out.alloc HBL.out.size _⟩
        case measure => simp [intOf]
    · have hst := durK_succ n 5 (by decide) ([115], 1000) rfl
      have hcl : (durK n 5).2 / 1000 < lim := HLIM.out 5 ([115], 1000) rfl
      obtain ⟨L, hL⟩ : ∃ L, L = (durK n 5).2 := ⟨_, rfl⟩
      obtain ⟨D, hD⟩ : ∃ D, D = (durK n 5).1 := ⟨_, rfl⟩
      rw [← hL] at hcl hll ⊢
      rw [← hD] at hBd hdl
      have hst2 : durK n (5 + 1) = (D ++ (if 0 < L / 1000 then Lib.decDigits (L / 1000) ++ [115] else []), L % 1000) := by rw [hst, hL, hD]; rfl
      have HBD : Hid (Bd w.heap.size w.heap.size ([45] ++ D) wr) := hBd
      have hix : ∀ W : World, (Instr.index 98 (.agg #[.string ⟨#[121]⟩, .int .i64 31536000000, .string ⟨#[119]⟩, .int .i64 604800000, .string ⟨#[100]⟩, .int .i64 86400000, .string ⟨#[104]⟩, .int .i64 3600000, .string ⟨#[109]⟩, .int .i64 60000, .string ⟨#[115]⟩, .int .i64 1000, .string ⟨#[109, 115]⟩, .int .i64 1]) (.int .i64 5)).run Tryd.prog W = .ok (.agg #[.string ⟨#[115]⟩, .int .i64 1000]) W := fun W => by kernel_rfl
      clear hst hL hD hBd
      by_cases hpos : 0 < L / 1000
      · rw [if_pos hpos] at hst2
        have HST : Hid (durK n (5 + 1) = (D ++ (Lib.decDigits (L / 1000) ++ [115]), L % 1000)) := hst2
        have hdd : (Lib.decDigits (L / 1000)).length ≤ 20 := dec_len _ (by omega)
        obtain ⟨dd, hdd2⟩ : ∃ dd, dd = Lib.decDigits (L / 1000) := ⟨_, rfl⟩
        have hfu := HFU.out (L / 1000) hcl
        have hec : (((L / 1000 : Nat)) : Int) = (L : Int) / 1000 := by omega
        rw [← hdd2, hec] at hfu
        rw [← hdd2] at HST hdd
        clear hst2 hdd2
        have hqp : (0 : Int) < (L : Int) / 1000 := by omega
        go_wp2_with (first
          | (go_at_call 57; refine (hfu _ (HBL.out.alloc HBL.out.size _)).mono ?_; clear hfu; rintro e w2 ⟨rfl, hb2⟩; have HB2 : Hid (Bd w.heap.size w.heap.size ([45] ++ D) w2) := HBD.out.below (((Below.refl _ _).alloc (Nat.le_refl _) _).trans (hb2.mono (by simp))); have HX2 : Hid (w2.heap[wr.heap.size]? = some (.cells #[.string ⟨#[115]⟩, .int .i64 1000] 97 (0, 0))) := (hb2.block wr.heap.size (by simp)).trans (heap_alloc_new wr _); have HW2 : Hid (Below w.heap.size w w2) := (HBL.out.alloc HBL.out.size _).trans (hb2.mono (by simp; exact Nat.le_succ_of_le HBL.out.size)); clear hb2)
          | (go_at_call 56; refine (ws_any _ _ ([45] ++ D) ⟨dd.toArray⟩ _ HB2.out (by simp <;> omega) (by simp [ByteArray.size] <;> omega) HW2.out.size).mono ?_; rintro e w3 ⟨rfl, hB3, hk3⟩; have HB3 : Hid (Bd w.heap.size w.heap.size ([45] ++ D ++ dd) w3) := (by show Bd _ _ _ _; simpa using hB3); have HX3 : Hid _ := unit_kept hk3 HB2.out HX2.out; have HW3 : Hid (Below w.heap.size w w3) := HW2.out.trans hk3.below; clear hB3 hk3 HB2 HX2 HW2; obtain ⟨x0, x1⟩ := unit_cells HX3.out)
          | (go_at_call 56; refine (ws_any _ _ ([45] ++ D ++ dd) ⟨#[115]⟩ _ HB3.out (by simp <;> omega) (by decide) HW3.out.size).mono ?_; rintro e w4 ⟨rfl, hB4, hk4⟩; have HB4 : Hid (Bd w.heap.size w.heap.size ([45] ++ (D ++ (dd ++ [115]))) w4) := (by show Bd _ _ _ _; simpa using hB4); have HX4 : Hid _ := unit_kept hk4 HB3.out HX3.out; have HW4 : Hid (Below w.heap.size w w4) := HW3.out.trans hk4.below; clear hB4 hk4 HB3 HX3 HW3; obtain ⟨y0, y1⟩ := unit_cells HX4.out))
        go_roundw
        case rel => exact ⟨6, by decide, rfl, by rw [HST.out]; rfl, by rw [HST.out]; simp; omega, by rw [HST.out]; exact Nat.le_trans (Nat.mod_le _ _) hll, by rw [HST.out]; exact HB4.out, HW4.out⟩
        case measure => simp [intOf]
      · rw [if_neg hpos] at hst2
        have HST : Hid (durK n (5 + 1) = (D, L % 1000)) := by rw [List.append_nil] at hst2; exact hst2
        have hq1 : ((L : Int) / 1000) = 0 := by omega
        clear hst2
        go_wp2
        go_roundw
        case rel => exact ⟨6, by decide, rfl, by rw [HST.out]; rfl, by rw [HST.out]; show D.length ≤ _; omega, by rw [HST.out]; exact Nat.le_trans (Nat.mod_le _ _) hll, by rw [HST.out]; exact HBD.out.below ((Below.refl _ _).alloc (Nat.le_refl _) _), HBL.out.alloc HBL.out.size _⟩
        case measure => simp [intOf]
    · have hst := durK_succ n 6 (by decide) ([109, 115], 1) rfl
      have hcl : (durK n 6).2 < lim := by have h9 := HLIM.out 6 ([109, 115], 1) rfl; rwa [Nat.div_one] at h9
      obtain ⟨L, hL⟩ : ∃ L, L = (durK n 6).2 := ⟨_, rfl⟩
      obtain ⟨D, hD⟩ : ∃ D, D = (durK n 6).1 := ⟨_, rfl⟩
      rw [← hL] at hcl hll ⊢
      rw [← hD] at hBd hdl
      have hst2 : durK n (6 + 1) = (D ++ (if 0 < L then Lib.decDigits (L) ++ [109, 115] else []), 0) := by rw [hst, hL, hD]; unfold durS; simp [Nat.mod_one]
      have HBD : Hid (Bd w.heap.size w.heap.size ([45] ++ D) wr) := hBd
      have hix : ∀ W : World, (Instr.index 98 (.agg #[.string ⟨#[121]⟩, .int .i64 31536000000, .string ⟨#[119]⟩, .int .i64 604800000, .string ⟨#[100]⟩, .int .i64 86400000, .string ⟨#[104]⟩, .int .i64 3600000, .string ⟨#[109]⟩, .int .i64 60000, .string ⟨#[115]⟩, .int .i64 1000, .string ⟨#[109, 115]⟩, .int .i64 1]) (.int .i64 6)).run Tryd.prog W = .ok (.agg #[.string ⟨#[109, 115]⟩, .int .i64 1]) W := fun W => by kernel_rfl
      clear hst hL hD hBd
      by_cases hpos : 0 < L
      · rw [if_pos hpos] at hst2
        have HST : Hid (durK n (6 + 1) = (D ++ (Lib.decDigits (L) ++ [109, 115]), 0)) := hst2
        have hdd : (Lib.decDigits (L)).length ≤ 20 := dec_len _ (by omega)
        obtain ⟨dd, hdd2⟩ : ∃ dd, dd = Lib.decDigits (L) := ⟨_, rfl⟩
        have hfu := HFU.out (L) hcl
        have hec : (((L : Nat)) : Int) = (L : Int) := by omega
        rw [← hdd2, hec] at hfu
        rw [← hdd2] at HST hdd
        clear hst2 hdd2
        have hqp : (0 : Int) < (L : Int) := by omega
        go_wp2_with (first
          | (go_at_call 57; refine (hfu _ (HBL.out.alloc HBL.out.size _)).mono ?_; clear hfu; rintro e w2 ⟨rfl, hb2⟩; have HB2 : Hid (Bd w.heap.size w.heap.size ([45] ++ D) w2) := HBD.out.below (((Below.refl _ _).alloc (Nat.le_refl _) _).trans (hb2.mono (by simp))); have HX2 : Hid (w2.heap[wr.heap.size]? = some (.cells #[.string ⟨#[109, 115]⟩, .int .i64 1] 97 (0, 0))) := (hb2.block wr.heap.size (by simp)).trans (heap_alloc_new wr _); have HW2 : Hid (Below w.heap.size w w2) := (HBL.out.alloc HBL.out.size _).trans (hb2.mono (by simp; exact Nat.le_succ_of_le HBL.out.size)); clear hb2)
          | (go_at_call 56; refine (ws_any _ _ ([45] ++ D) ⟨dd.toArray⟩ _ HB2.out (by simp <;> omega) (by simp [ByteArray.size] <;> omega) HW2.out.size).mono ?_; rintro e w3 ⟨rfl, hB3, hk3⟩; have HB3 : Hid (Bd w.heap.size w.heap.size ([45] ++ D ++ dd) w3) := (by show Bd _ _ _ _; simpa using hB3); have HX3 : Hid _ := unit_kept hk3 HB2.out HX2.out; have HW3 : Hid (Below w.heap.size w w3) := HW2.out.trans hk3.below; clear hB3 hk3 HB2 HX2 HW2; obtain ⟨x0, x1⟩ := unit_cells HX3.out)
          | (go_at_call 56; refine (ws_any _ _ ([45] ++ D ++ dd) ⟨#[109, 115]⟩ _ HB3.out (by simp <;> omega) (by decide) HW3.out.size).mono ?_; rintro e w4 ⟨rfl, hB4, hk4⟩; have HB4 : Hid (Bd w.heap.size w.heap.size ([45] ++ (D ++ (dd ++ [109, 115]))) w4) := (by show Bd _ _ _ _; simpa using hB4); have HX4 : Hid _ := unit_kept hk4 HB3.out HX3.out; have HW4 : Hid (Below w.heap.size w w4) := HW3.out.trans hk4.below; clear hB4 hk4 HB3 HX3 HW3; obtain ⟨y0, y1⟩ := unit_cells HX4.out))
        go_roundw
        case rel => exact ⟨7, by decide, rfl, by rw [HST.out]; rfl, by rw [HST.out]; simp; omega, by rw [HST.out]; exact Nat.zero_le _, by rw [HST.out]; exact HB4.out, HW4.out⟩
        case measure => simp [intOf]
      · rw [if_neg hpos] at hst2
        have HST : Hid (durK n (6 + 1) = (D, 0)) := by rw [List.append_nil] at hst2; exact hst2
        have hq1 : ((L : Int)) = 0 := by omega
        clear hst2
        go_wp2
        go_roundw
        case rel => exact ⟨7, by decide, rfl, by rw [HST.out]; rfl, by rw [HST.out]; show D.length ≤ _; omega, by rw [HST.out]; exact Nat.zero_le _, by rw [HST.out]; exact HBD.out.below ((Below.refl _ _).alloc (Nat.le_refl _) _), HBL.out.alloc HBL.out.size _⟩
        case measure => simp [intOf]
    · have HBD : Hid (Bd w.heap.size w.heap.size ([45] ++ (durK n 7).1) wr) := hBd
      clear hBd
      go_wp2_with (go_at_call 58; refine (Any.Builder_String_any_k Tryd.lays169 Tryd.Builder_Extra_169 _ _ ([45] ++ (durK n 7).1) _ HBD.out HBL.out.size).mono ?_; rintro e w5 ⟨rfl, hB5, hk5, hk6⟩; have HW5 : Hid (Below w.heap.size w w5) := HBL.out.trans hk5; clear hB5 hk5 hk6)
      go_ret
      exact ⟨rfl, HW5.out⟩

set_option maxRecDepth 100000 in
set_option maxHeartbeats 8000000 in
theorem dur_pos (ms : Int) (n lim : Nat) (w : World) (hn : n ≤ 9223372036854775808) (hU : Units w) (HFU : Hid (∀ i, i < lim → ∀ W : World, Below w.heap.size w W → Calls Tryd.prog 57 #[.int .u64 i, .int .i64 10] W fun e w' => e = .returned (.string ⟨(Lib.decDigits i).toArray⟩) ∧ Below W.heap.size W w')) (HLIM : Hid (∀ k u, unitsL[k]? = some u → (durK n k).2 / u.2 < lim))
    (hms : 0 < ms) (hna : n = ms.natAbs) (hr1 : -9223372036854775808 ≤ ms) (hr2 : ms ≤ 9223372036854775807) :
    Calls Tryd.prog 31 #[.int .i64 ms] w fun e w' => e = .returned (.string ⟨([] ++ (durK n 7).1).toArray⟩) ∧ Below w.heap.size w w' := by
  have HSZ : Hid (∀ W : World, Calls Tryd.prog 55 #[.int .i64 ms] W fun e w' => e = .returned (.int .u64 (n : Nat)) ∧ w' = W) := fun W => by rw [hna]; exact size_any ms W hr1 hr2
  have h0 : (ms == 0) = false := by rw [beq_eq_false_iff_ne]; omega
  have HFR : Hid (Bd w.heap.size w.heap.size [] (w.alloc (.cells #[.pointer none, .slice none 0 0] 91 (0, 0)))) := Bd.fresh w
  have HUN : Hid (Units w) := hU
  have hz : ∀ h, (Tryd.prog.types[97]'h).size = 2 := fun _ => by kernel_rfl
  clear hU hna
  go_enter Tryd.func31, Tryd.ntmps31
  have HB1 : Hid True := trivial
  have HBL : Hid (Below w.heap.size w (w.alloc (.cells #[.pointer none, .slice none 0 0] 91 (0, 0)))) := (Below.refl _ _).alloc (Nat.le_refl _) _
  obtain ⟨z0, z1, z2, z3, z4, z5, z6, z7, z8, z9, z10, z11, z12, z13, z14⟩ := HUN.out.below HBL.out
  go_wp2_with (go_at_call 55; refine (HSZ.out _).mono ?_; rintro e w2 ⟨rfl, hw2⟩; have hw2 := hw2.symm; subst hw2)
  go_loopw [4, 16] (fun l i wr => ∃ k : Nat, k ≤ 7 ∧ i = .int .i64 k ∧ l = .int .u64 ((durK n k).2 : Nat) ∧ (durK n k).1.length ≤ 22 * k ∧ (durK n k).2 ≤ 9223372036854775808 ∧ Hid (Bd w.heap.size w.heap.size ([] ++ (durK n k).1) wr) ∧ Hid (Below w.heap.size w wr)) (fun _ i _ => 7 - (intOf i).toNat)
  case atStart => exact ⟨0, by decide, rfl, rfl, by simp [durK], hn, (by show Bd _ _ _ _; simpa [durK] using HFR.out), HBL.out⟩
  case round =>
    clear HBL HB1 HFR HSZ HUN h0
    obtain ⟨k, hk, rfl, rfl, hdl, hll, hBd, HBL⟩ := hrel
    rcases (show k = 0 ∨ k = 1 ∨ k = 2 ∨ k = 3 ∨ k = 4 ∨ k = 5 ∨ k = 6 ∨ k = 7 by omega) with rfl | rfl | rfl | rfl | rfl | rfl | rfl | rfl
    · have hst := durK_succ n 0 (by decide) ([121], 31536000000) rfl
      have hcl : (durK n 0).2 / 31536000000 < lim := HLIM.out 0 ([121], 31536000000) rfl
      obtain ⟨L, hL⟩ : ∃ L, L = (durK n 0).2 := ⟨_, rfl⟩
      obtain ⟨D, hD⟩ : ∃ D, D = (durK n 0).1 := ⟨_, rfl⟩
      rw [← hL] at hcl hll ⊢
      rw [← hD] at hBd hdl
      have hst2 : durK n (0 + 1) = (D ++ (if 0 < L / 31536000000 then Lib.decDigits (L / 31536000000) ++ [121] else []), L % 31536000000) := by rw [hst, hL, hD]; rfl
      have HBD : Hid (Bd w.heap.size w.heap.size ([] ++ D) wr) := hBd
      have hix : ∀ W : World, (Instr.index 98 (.agg #[.string ⟨#[121]⟩, .int .i64 31536000000, .string ⟨#[119]⟩, .int .i64 604800000, .string ⟨#[100]⟩, .int .i64 86400000, .string ⟨#[104]⟩, .int .i64 3600000, .string ⟨#[109]⟩, .int .i64 60000, .string ⟨#[115]⟩, .int .i64 1000, .string ⟨#[109, 115]⟩, .int .i64 1]) (.int .i64 0)).run Tryd.prog W = .ok (.agg #[.string ⟨#[121]⟩, .int .i64 31536000000]) W := fun W => by kernel_rfl
      clear hst hL hD hBd
      by_cases hpos : 0 < L / 31536000000
      · rw [if_pos hpos] at hst2
        have HST : Hid (durK n (0 + 1) = (D ++ (Lib.decDigits (L / 31536000000) ++ [121]), L % 31536000000)) := hst2
        have hdd : (Lib.decDigits (L / 31536000000)).length ≤ 20 := dec_len _ (by omega)
        obtain ⟨dd, hdd2⟩ : ∃ dd, dd = Lib.decDigits (L / 31536000000) := ⟨_, rfl⟩
        have hfu := HFU.out (L / 31536000000) hcl
        have hec : (((L / 31536000000 : Nat)) : Int) = (L : Int) / 31536000000 := by omega
        rw [← hdd2, hec] at hfu
        rw [← hdd2] at HST hdd
        clear hst2 hdd2
        have hqp : (0 : Int) < (L : Int) / 31536000000 := by omega
        go_wp2_with (first
          | (go_at_call 57; refine (hfu _ (HBL.out.alloc HBL.out.size _)).mono ?_; clear hfu; rintro e w2 ⟨rfl, hb2⟩; have HB2 : Hid (Bd w.heap.size w.heap.size ([] ++ D) w2) := HBD.out.below (((Below.refl _ _).alloc (Nat.le_refl _) _).trans (hb2.mono (by simp))); have HX2 : Hid (w2.heap[wr.heap.size]? = some (.cells #[.string ⟨#[121]⟩, .int .i64 31536000000] 97 (0, 0))) := (hb2.block wr.heap.size (by simp)).trans (heap_alloc_new wr _); have HW2 : Hid (Below w.heap.size w w2) := (HBL.out.alloc HBL.out.size _).trans (hb2.mono (by simp; exact Nat.le_succ_of_le HBL.out.size)); clear hb2)
          | (go_at_call 56; refine (ws_any _ _ ([] ++ D) ⟨dd.toArray⟩ _ HB2.out (by simp <;> omega) (by simp [ByteArray.size] <;> omega) HW2.out.size).mono ?_; rintro e w3 ⟨rfl, hB3, hk3⟩; have HB3 : Hid (Bd w.heap.size w.heap.size ([] ++ D ++ dd) w3) := (by show Bd _ _ _ _; simpa using hB3); have HX3 : Hid _ := unit_kept hk3 HB2.out HX2.out; have HW3 : Hid (Below w.heap.size w w3) := HW2.out.trans hk3.below; clear hB3 hk3 HB2 HX2 HW2; obtain ⟨x0, x1⟩ := unit_cells HX3.out)
          | (go_at_call 56; refine (ws_any _ _ ([] ++ D ++ dd) ⟨#[121]⟩ _ HB3.out (by simp <;> omega) (by decide) HW3.out.size).mono ?_; rintro e w4 ⟨rfl, hB4, hk4⟩; have HB4 : Hid (Bd w.heap.size w.heap.size ([] ++ (D ++ (dd ++ [121]))) w4) := (by show Bd _ _ _ _; simpa using hB4); have HX4 : Hid _ := unit_kept hk4 HB3.out HX3.out; have HW4 : Hid (Below w.heap.size w w4) := HW3.out.trans hk4.below; clear hB4 hk4 HB3 HX3 HW3; obtain ⟨y0, y1⟩ := unit_cells HX4.out))
        go_roundw
        case rel => exact ⟨1, by decide, rfl, by rw [HST.out]; rfl, by rw [HST.out]; simp; omega, by rw [HST.out]; exact Nat.le_trans (Nat.mod_le _ _) hll, by rw [HST.out]; exact HB4.out, HW4.out⟩
        case measure => simp [intOf]
      · rw [if_neg hpos] at hst2
        have HST : Hid (durK n (0 + 1) = (D, L % 31536000000)) := by rw [List.append_nil] at hst2; exact hst2
        have hq1 : ((L : Int) / 31536000000) = 0 := by omega
        clear hst2
        go_wp2
        go_roundw
        case rel => exact ⟨1, by decide, rfl, by rw [HST.out]; rfl, by rw [HST.out]; show D.length ≤ _; omega, by rw [HST.out]; exact Nat.le_trans (Nat.mod_le _ _) hll, by rw [HST.out]; exact HBD.out.below ((Below.refl _ _).alloc (Nat.le_refl _) _), HBL.out.alloc HBL.out.size _⟩
        case measure => simp [intOf]
    · have hst := durK_succ n 1 (by decide) ([119], 604800000) rfl
      have hcl : (durK n 1).2 / 604800000 < lim := HLIM.out 1 ([119], 604800000) rfl
      obtain ⟨L, hL⟩ : ∃ L, L = (durK n 1).2 := ⟨_, rfl⟩
      obtain ⟨D, hD⟩ : ∃ D, D = (durK n 1).1 := ⟨_, rfl⟩
      rw [← hL] at hcl hll ⊢
      rw [← hD] at hBd hdl
      have hst2 : durK n (1 + 1) = (D ++ (if 0 < L / 604800000 then Lib.decDigits (L / 604800000) ++ [119] else []), L % 604800000) := by rw [hst, hL, hD]; rfl
      have HBD : Hid (Bd w.heap.size w.heap.size ([] ++ D) wr) := hBd
      have hix : ∀ W : World, (Instr.index 98 (.agg #[.string ⟨#[121]⟩, .int .i64 31536000000, .string ⟨#[119]⟩, .int .i64 604800000, .string ⟨#[100]⟩, .int .i64 86400000, .string ⟨#[104]⟩, .int .i64 3600000, .string ⟨#[109]⟩, .int .i64 60000, .string ⟨#[115]⟩, .int .i64 1000, .string ⟨#[109, 115]⟩, .int .i64 1]) (.int .i64 1)).run Tryd.prog W = .ok (.agg #[.string ⟨#[119]⟩, .int .i64 604800000]) W := fun W => by kernel_rfl
      clear hst hL hD hBd
      by_cases hpos : 0 < L / 604800000
      · rw [if_pos hpos] at hst2
        have HST : Hid (durK n (1 + 1) = (D ++ (Lib.decDigits (L / 604800000) ++ [119]), L % 604800000)) := hst2
        have hdd : (Lib.decDigits (L / 604800000)).length ≤ 20 := dec_len _ (by omega)
        obtain ⟨dd, hdd2⟩ : ∃ dd, dd = Lib.decDigits (L / 604800000) := ⟨_, rfl⟩
        have hfu := HFU.out (L / 604800000) hcl
        have hec : (((L / 604800000 : Nat)) : Int) = (L : Int) / 604800000 := by omega
        rw [← hdd2, hec] at hfu
        rw [← hdd2] at HST hdd
        clear hst2 hdd2
        have hqp : (0 : Int) < (L : Int) / 604800000 := by omega
        go_wp2_with (first
          | (go_at_call 57; refine (hfu _ (HBL.out.alloc HBL.out.size _)).mono ?_; clear hfu; rintro e w2 ⟨rfl, hb2⟩; have HB2 : Hid (Bd w.heap.size w.heap.size ([] ++ D) w2) := HBD.out.below (((Below.refl _ _).alloc (Nat.le_refl _) _).trans (hb2.mono (by simp))); have HX2 : Hid (w2.heap[wr.heap.size]? = some (.cells #[.string ⟨#[119]⟩, .int .i64 604800000] 97 (0, 0))) := (hb2.block wr.heap.size (by simp)).trans (heap_alloc_new wr _); have HW2 : Hid (Below w.heap.size w w2) := (HBL.out.alloc HBL.out.size _).trans (hb2.mono (by simp; exact Nat.le_succ_of_le HBL.out.size)); clear hb2)
          | (go_at_call 56; refine (ws_any _ _ ([] ++ D) ⟨dd.toArray⟩ _ HB2.out (by simp <;> omega) (by simp [ByteArray.size] <;> omega) HW2.out.size).mono ?_; rintro e w3 ⟨rfl, hB3, hk3⟩; have HB3 : Hid (Bd w.heap.size w.heap.size ([] ++ D ++ dd) w3) := (by show Bd _ _ _ _; simpa using hB3); have HX3 : Hid _ := unit_kept hk3 HB2.out HX2.out; have HW3 : Hid (Below w.heap.size w w3) := HW2.out.trans hk3.below; clear hB3 hk3 HB2 HX2 HW2; obtain ⟨x0, x1⟩ := unit_cells HX3.out)
          | (go_at_call 56; refine (ws_any _ _ ([] ++ D ++ dd) ⟨#[119]⟩ _ HB3.out (by simp <;> omega) (by decide) HW3.out.size).mono ?_; rintro e w4 ⟨rfl, hB4, hk4⟩; have HB4 : Hid (Bd w.heap.size w.heap.size ([] ++ (D ++ (dd ++ [119]))) w4) := (by show Bd _ _ _ _; simpa using hB4); have HX4 : Hid _ := unit_kept hk4 HB3.out HX3.out; have HW4 : Hid (Below w.heap.size w w4) := HW3.out.trans hk4.below; clear hB4 hk4 HB3 HX3 HW3; obtain ⟨y0, y1⟩ := unit_cells HX4.out))
        go_roundw
        case rel => exact ⟨2, by decide, rfl, by rw [HST.out]; rfl, by rw [HST.out]; simp; omega, by rw [HST.out]; exact Nat.le_trans (Nat.mod_le _ _) hll, by rw [HST.out]; exact HB4.out, HW4.out⟩
        case measure => simp [intOf]
      · rw [if_neg hpos] at hst2
        have HST : Hid (durK n (1 + 1) = (D, L % 604800000)) := by rw [List.append_nil] at hst2; exact hst2
        have hq1 : ((L : Int) / 604800000) = 0 := by omega
        clear hst2
        go_wp2
        go_roundw
        case rel => exact ⟨2, by decide, rfl, by rw [HST.out]; rfl, by rw [HST.out]; show D.length ≤ _; omega, by rw [HST.out]; exact Nat.le_trans (Nat.mod_le _ _) hll, by rw [HST.out]; exact HBD.out.below ((Below.refl _ _).alloc (Nat.le_refl _) _), HBL.out.alloc HBL.out.size _⟩
        case measure => simp [intOf]
    · have hst := durK_succ n 2 (by decide) ([100], 86400000) rfl
      have hcl : (durK n 2).2 / 86400000 < lim := HLIM.out 2 ([100], 86400000) rfl
      obtain ⟨L, hL⟩ : ∃ L, L = (durK n 2).2 := ⟨_, rfl⟩
      obtain ⟨D, hD⟩ : ∃ D, D = (durK n 2).1 := ⟨_, rfl⟩
      rw [← hL] at hcl hll ⊢
      rw [← hD] at hBd hdl
      have hst2 : durK n (2 + 1) = (D ++ (if 0 < L / 86400000 then Lib.decDigits (L / 86400000) ++ [100] else []), L % 86400000) := by rw [hst, hL, hD]; rfl
      have HBD : Hid (Bd w.heap.size w.heap.size ([] ++ D) wr) := hBd
      have hix : ∀ W : World, (Instr.index 98 (.agg #[.string ⟨#[121]⟩, .int .i64 31536000000, .string ⟨#[119]⟩, .int .i64 604800000, .string ⟨#[100]⟩, .int .i64 86400000, .string ⟨#[104]⟩, .int .i64 3600000, .string ⟨#[109]⟩, .int .i64 60000, .string ⟨#[115]⟩, .int .i64 1000, .string ⟨#[109, 115]⟩, .int .i64 1]) (.int .i64 2)).run Tryd.prog W = .ok (.agg #[.string ⟨#[100]⟩, .int .i64 86400000]) W := fun W => by kernel_rfl
      clear hst hL hD hBd
      by_cases hpos : 0 < L / 86400000
      · rw [if_pos hpos] at hst2
        have HST : Hid (durK n (2 + 1) = (D ++ (Lib.decDigits (L / 86400000) ++ [100]), L % 86400000)) := hst2
        have hdd : (Lib.decDigits (L / 86400000)).length ≤ 20 := dec_len _ (by omega)
        obtain ⟨dd, hdd2⟩ : ∃ dd, dd = Lib.decDigits (L / 86400000) := ⟨_, rfl⟩
        have hfu := HFU.out (L / 86400000) hcl
        have hec : (((L / 86400000 : Nat)) : Int) = (L : Int) / 86400000 := by omega
        rw [← hdd2, hec] at hfu
        rw [← hdd2] at HST hdd
        clear hst2 hdd2
        have hqp : (0 : Int) < (L : Int) / 86400000 := by omega
        go_wp2_with (first
          | (go_at_call 57; refine (hfu _ (HBL.out.alloc HBL.out.size _)).mono ?_; clear hfu; rintro e w2 ⟨rfl, hb2⟩; have HB2 : Hid (Bd w.heap.size w.heap.size ([] ++ D) w2) := HBD.out.below (((Below.refl _ _).alloc (Nat.le_refl _) _).trans (hb2.mono (by simp))); have HX2 : Hid (w2.heap[wr.heap.size]? = some (.cells #[.string ⟨#[100]⟩, .int .i64 86400000] 97 (0, 0))) := (hb2.block wr.heap.size (by simp)).trans (heap_alloc_new wr _); have HW2 : Hid (Below w.heap.size w w2) := (HBL.out.alloc HBL.out.size _).trans (hb2.mono (by simp; exact Nat.le_succ_of_le HBL.out.size)); clear hb2)
          | (go_at_call 56; refine (ws_any _ _ ([] ++ D) ⟨dd.toArray⟩ _ HB2.out (by simp <;> omega) (by simp [ByteArray.size] <;> omega) HW2.out.size).mono ?_; rintro e w3 ⟨rfl, hB3, hk3⟩; have HB3 : Hid (Bd w.heap.size w.heap.size ([] ++ D ++ dd) w3) := (by show Bd _ _ _ _; simpa using hB3); have HX3 : Hid _ := unit_kept hk3 HB2.out HX2.out; have HW3 : Hid (Below w.heap.size w w3) := HW2.out.trans hk3.below; clear hB3 hk3 HB2 HX2 HW2; obtain ⟨x0, x1⟩ := unit_cells HX3.out)
          | (go_at_call 56; refine (ws_any _ _ ([] ++ D ++ dd) ⟨#[100]⟩ _ HB3.out (by simp <;> omega) (by decide) HW3.out.size).mono ?_; rintro e w4 ⟨rfl, hB4, hk4⟩; have HB4 : Hid (Bd w.heap.size w.heap.size ([] ++ (D ++ (dd ++ [100]))) w4) := (by show Bd _ _ _ _; simpa using hB4); have HX4 : Hid _ := unit_kept hk4 HB3.out HX3.out; have HW4 : Hid (Below w.heap.size w w4) := HW3.out.trans hk4.below; clear hB4 hk4 HB3 HX3 HW3; obtain ⟨y0, y1⟩ := unit_cells HX4.out))
        go_roundw
        case rel => exact ⟨3, by decide, rfl, by rw [HST.out]; rfl, by rw [HST.out]; simp; omega, by rw [HST.out]; exact Nat.le_trans (Nat.mod_le _ _) hll, by rw [HST.out]; exact HB4.out, HW4.out⟩
        case measure => simp [intOf]
      · rw [if_neg hpos] at hst2
        have HST : Hid (durK n (2 + 1) = (D, L % 86400000)) := by rw [List.append_nil] at hst2; exact hst2
        have hq1 : ((L : Int) / 86400000) = 0 := by omega
        clear hst2
        go_wp2
        go_roundw
        case rel => exact ⟨3, by decide, rfl, by rw [HST.out]; rfl, by rw [HST.out]; show D.length ≤ _; omega, by rw [HST.out]; exact Nat.le_trans (Nat.mod_le _ _) hll, by rw [HST.out]; exact HBD.out.below ((Below.refl _ _).alloc (Nat.le_refl _) _), HBL.out.alloc HBL.out.size _⟩
        case measure => simp [intOf]
    · have hst := durK_succ n 3 (by decide) ([104], 3600000) rfl
      have hcl : (durK n 3).2 / 3600000 < lim := HLIM.out 3 ([104], 3600000) rfl
      obtain ⟨L, hL⟩ : ∃ L, L = (durK n 3).2 := ⟨_, rfl⟩
      obtain ⟨D, hD⟩ : ∃ D, D = (durK n 3).1 := ⟨_, rfl⟩
      rw [← hL] at hcl hll ⊢
      rw [← hD] at hBd hdl
      have hst2 : durK n (3 + 1) = (D ++ (if 0 < L / 3600000 then Lib.decDigits (L / 3600000) ++ [104] else []), L % 3600000) := by rw [hst, hL, hD]; rfl
      have HBD : Hid (Bd w.heap.size w.heap.size ([] ++ D) wr) := hBd
      have hix : ∀ W : World, (Instr.index 98 (.agg #[.string ⟨#[121]⟩, .int .i64 31536000000, .string ⟨#[119]⟩, .int .i64 604800000, .string ⟨#[100]⟩, .int .i64 86400000, .string ⟨#[104]⟩, .int .i64 3600000, .string ⟨#[109]⟩, .int .i64 60000, .string ⟨#[115]⟩, .int .i64 1000, .string ⟨#[109, 115]⟩, .int .i64 1]) (.int .i64 3)).run Tryd.prog W = .ok (.agg #[.string ⟨#[104]⟩, .int .i64 3600000]) W := fun W => by kernel_rfl
      clear hst hL hD hBd
      by_cases hpos : 0 < L / 3600000
      · rw [if_pos hpos] at hst2
        have HST : Hid (durK n (3 + 1) = (D ++ (Lib.decDigits (L / 3600000) ++ [104]), L % 3600000)) := hst2
        have hdd : (Lib.decDigits (L / 3600000)).length ≤ 20 := dec_len _ (by omega)
        obtain ⟨dd, hdd2⟩ : ∃ dd, dd = Lib.decDigits (L / 3600000) := ⟨_, rfl⟩
        have hfu := HFU.out (L / 3600000) hcl
        have hec : (((L / 3600000 : Nat)) : Int) = (L : Int) / 3600000 := by omega
        rw [← hdd2, hec] at hfu
        rw [← hdd2] at HST hdd
        clear hst2 hdd2
        have hqp : (0 : Int) < (L : Int) / 3600000 := by omega
        go_wp2_with (first
          | (go_at_call 57; refine (hfu _ (HBL.out.alloc HBL.out.size _)).mono ?_; clear hfu; rintro e w2 ⟨rfl, hb2⟩; have HB2 : Hid (Bd w.heap.size w.heap.size ([] ++ D) w2) := HBD.out.below (((Below.refl _ _).alloc (Nat.le_refl _) _).trans (hb2.mono (by simp))); have HX2 : Hid (w2.heap[wr.heap.size]? = some (.cells #[.string ⟨#[104]⟩, .int .i64 3600000] 97 (0, 0))) := (hb2.block wr.heap.size (by simp)).trans (heap_alloc_new wr _); have HW2 : Hid (Below w.heap.size w w2) := (HBL.out.alloc HBL.out.size _).trans (hb2.mono (by simp; exact Nat.le_succ_of_le HBL.out.size)); clear hb2)
          | (go_at_call 56; refine (ws_any _ _ ([] ++ D) ⟨dd.toArray⟩ _ HB2.out (by simp <;> omega) (by simp [ByteArray.size] <;> omega) HW2.out.size).mono ?_; rintro e w3 ⟨rfl, hB3, hk3⟩; have HB3 : Hid (Bd w.heap.size w.heap.size ([] ++ D ++ dd) w3) := (by show Bd _ _ _ _; simpa using hB3); have HX3 : Hid _ := unit_kept hk3 HB2.out HX2.out; have HW3 : Hid (Below w.heap.size w w3) := HW2.out.trans hk3.below; clear hB3 hk3 HB2 HX2 HW2; obtain ⟨x0, x1⟩ := unit_cells HX3.out)
          | (go_at_call 56; refine (ws_any _ _ ([] ++ D ++ dd) ⟨#[104]⟩ _ HB3.out (by simp <;> omega) (by decide) HW3.out.size).mono ?_; rintro e w4 ⟨rfl, hB4, hk4⟩; have HB4 : Hid (Bd w.heap.size w.heap.size ([] ++ (D ++ (dd ++ [104]))) w4) := (by show Bd _ _ _ _; simpa using hB4); have HX4 : Hid _ := unit_kept hk4 HB3.out HX3.out; have HW4 : Hid (Below w.heap.size w w4) := HW3.out.trans hk4.below; clear hB4 hk4 HB3 HX3 HW3; obtain ⟨y0, y1⟩ := unit_cells HX4.out))
        go_roundw
        case rel => exact ⟨4, by decide, rfl, by rw [HST.out]; rfl, by rw [HST.out]; simp; omega, by rw [HST.out]; exact Nat.le_trans (Nat.mod_le _ _) hll, by rw [HST.out]; exact HB4.out, HW4.out⟩
        case measure => simp [intOf]
      · rw [if_neg hpos] at hst2
        have HST : Hid (durK n (3 + 1) = (D, L % 3600000)) := by rw [List.append_nil] at hst2; exact hst2
        have hq1 : ((L : Int) / 3600000) = 0 := by omega
        clear hst2
        go_wp2
        go_roundw
        case rel => exact ⟨4, by decide, rfl, by rw [HST.out]; rfl, by rw [HST.out]; show D.length ≤ _; omega, by rw [HST.out]; exact Nat.le_trans (Nat.mod_le _ _) hll, by rw [HST.out]; exact HBD.out.below ((Below.refl _ _).alloc (Nat.le_refl _) _), HBL.out.alloc HBL.out.size _⟩
        case measure => simp [intOf]
    · have hst := durK_succ n 4 (by decide) ([109], 60000) rfl
      have hcl : (durK n 4).2 / 60000 < lim := HLIM.out 4 ([109], 60000) rfl
      obtain ⟨L, hL⟩ : ∃ L, L = (durK n 4).2 := ⟨_, rfl⟩
      obtain ⟨D, hD⟩ : ∃ D, D = (durK n 4).1 := ⟨_, rfl⟩
      rw [← hL] at hcl hll ⊢
      rw [← hD] at hBd hdl
      have hst2 : durK n (4 + 1) = (D ++ (if 0 < L / 60000 then Lib.decDigits (L / 60000) ++ [109] else []), L % 60000) := by rw [hst, hL, hD]; rfl
      have HBD : Hid (Bd w.heap.size w.heap.size ([] ++ D) wr) := hBd
      have hix : ∀ W : World, (Instr.index 98 (.agg #[.string ⟨#[121]⟩, .int .i64 31536000000, .string ⟨#[119]⟩, .int .i64 604800000, .string ⟨#[100]⟩, .int .i64 86400000, .string ⟨#[104]⟩, .int .i64 3600000, .string ⟨#[109]⟩, .int .i64 60000, .string ⟨#[115]⟩, .int .i64 1000, .string ⟨#[109, 115]⟩, .int .i64 1]) (.int .i64 4)).run Tryd.prog W = .ok (.agg #[.string ⟨#[109]⟩, .int .i64 60000]) W := fun W => by kernel_rfl
      clear hst hL hD hBd
      by_cases hpos : 0 < L / 60000
      · rw [if_pos hpos] at hst2
        have HST : Hid (durK n (4 + 1) = (D ++ (Lib.decDigits (L / 60000) ++ [109]), L % 60000)) := hst2
        have hdd : (Lib.decDigits (L / 60000)).length ≤ 20 := dec_len _ (by omega)
        obtain ⟨dd, hdd2⟩ : ∃ dd, dd = Lib.decDigits (L / 60000) := ⟨_, rfl⟩
        have hfu := HFU.out (L / 60000) hcl
        have hec : (((L / 60000 : Nat)) : Int) = (L : Int) / 60000 := by omega
        rw [← hdd2, hec] at hfu
        rw [← hdd2] at HST hdd
        clear hst2 hdd2
        have hqp : (0 : Int) < (L : Int) / 60000 := by omega
        go_wp2_with (first
          | (go_at_call 57; refine (hfu _ (HBL.out.alloc HBL.out.size _)).mono ?_; clear hfu; rintro e w2 ⟨rfl, hb2⟩; have HB2 : Hid (Bd w.heap.size w.heap.size ([] ++ D) w2) := HBD.out.below (((Below.refl _ _).alloc (Nat.le_refl _) _).trans (hb2.mono (by simp))); have HX2 : Hid (w2.heap[wr.heap.size]? = some (.cells #[.string ⟨#[109]⟩, .int .i64 60000] 97 (0, 0))) := (hb2.block wr.heap.size (by simp)).trans (heap_alloc_new wr _); have HW2 : Hid (Below w.heap.size w w2) := (HBL.out.alloc HBL.out.size _).trans (hb2.mono (by simp; exact Nat.le_succ_of_le HBL.out.size)); clear hb2)
          | (go_at_call 56; refine (ws_any _ _ ([] ++ D) ⟨dd.toArray⟩ _ HB2.out (by simp <;> omega) (by simp [ByteArray.size] <;> omega) HW2.out.size).mono ?_; rintro e w3 ⟨rfl, hB3, hk3⟩; have HB3 : Hid (Bd w.heap.size w.heap.size ([] ++ D ++ dd) w3) := (by show Bd _ _ _ _; simpa using hB3); have HX3 : Hid _ := unit_kept hk3 HB2.out HX2.out; have HW3 : Hid (Below w.heap.size w w3) := HW2.out.trans hk3.below; clear hB3 hk3 HB2 HX2 HW2; obtain ⟨x0, x1⟩ := unit_cells HX3.out)
          | (go_at_call 56; refine (ws_any _ _ ([] ++ D ++ dd) ⟨#[109]⟩ _ HB3.out (by simp <;> omega) (by decide) HW3.out.size).mono ?_; rintro e w4 ⟨rfl, hB4, hk4⟩; have HB4 : Hid (Bd w.heap.size w.heap.size ([] ++ (D ++ (dd ++ [109]))) w4) := (by show Bd _ _ _ _; simpa using hB4); have HX4 : Hid _ := unit_kept hk4 HB3.out HX3.out; have HW4 : Hid (Below w.heap.size w w4) := HW3.out.trans hk4.below; clear hB4 hk4 HB3 HX3 HW3; obtain ⟨y0, y1⟩ := unit_cells HX4.out))
        go_roundw
        case rel => exact ⟨5, by decide, rfl, by rw [HST.out]; rfl, by rw [HST.out]; simp; omega, by rw [HST.out]; exact Nat.le_trans (Nat.mod_le _ _) hll, by rw [HST.out]; exact HB4.out, HW4.out⟩
        case measure => simp [intOf]
      · rw [if_neg hpos] at hst2
        have HST : Hid (durK n (4 + 1) = (D, L % 60000)) := by rw [List.append_nil] at hst2; exact hst2
        have hq1 : ((L : Int) / 60000) = 0 := by omega
        clear hst2
        go_wp2
        go_roundw
        case rel => exact ⟨5, by decide, rfl, by rw [HST.out]; rfl, by rw [HST.out]; show D.length ≤ _; omega, by rw [HST.out]; exact Nat.le_trans (Nat.mod_le _ _) hll, by rw [HST.out]; exact HBD.out.below ((Below.refl _ _).alloc (Nat.le_refl _) _), HBL.out.alloc HBL.out.size _⟩
        case measure => simp [intOf]
    · have hst := durK_succ n 5 (by decide) ([115], 1000) rfl
      have hcl : (durK n 5).2 / 1000 < lim := HLIM.out 5 ([115], 1000) rfl
      obtain ⟨L, hL⟩ : ∃ L, L = (durK n 5).2 := ⟨_, rfl⟩
      obtain ⟨D, hD⟩ : ∃ D, D = (durK n 5).1 := ⟨_, rfl⟩
      rw [← hL] at hcl hll ⊢
      rw [← hD] at hBd hdl
      have hst2 : durK n (5 + 1) = (D ++ (if 0 < L / 1000 then Lib.decDigits (L / 1000) ++ [115] else []), L % 1000) := by rw [hst, hL, hD]; rfl
      have HBD : Hid (Bd w.heap.size w.heap.size ([] ++ D) wr) := hBd
      have hix : ∀ W : World, (Instr.index 98 (.agg #[.string ⟨#[121]⟩, .int .i64 31536000000, .string ⟨#[119]⟩, .int .i64 604800000, .string ⟨#[100]⟩, .int .i64 86400000, .string ⟨#[104]⟩, .int .i64 3600000, .string ⟨#[109]⟩, .int .i64 60000, .string ⟨#[115]⟩, .int .i64 1000, .string ⟨#[109, 115]⟩, .int .i64 1]) (.int .i64 5)).run Tryd.prog W = .ok (.agg #[.string ⟨#[115]⟩, .int .i64 1000]) W := fun W => by kernel_rfl
      clear hst hL hD hBd
      by_cases hpos : 0 < L / 1000
      · rw [if_pos hpos] at hst2
        have HST : Hid (durK n (5 + 1) = (D ++ (Lib.decDigits (L / 1000) ++ [115]), L % 1000)) := hst2
        have hdd : (Lib.decDigits (L / 1000)).length ≤ 20 := dec_len _ (by omega)
        obtain ⟨dd, hdd2⟩ : ∃ dd, dd = Lib.decDigits (L / 1000) := ⟨_, rfl⟩
        have hfu := HFU.out (L / 1000) hcl
        have hec : (((L / 1000 : Nat)) : Int) = (L : Int) / 1000 := by omega
        rw [← hdd2, hec] at hfu
        rw [← hdd2] at HST hdd
        clear hst2 hdd2
        have hqp : (0 : Int) < (L : Int) / 1000 := by omega
        go_wp2_with (first
          | (go_at_call 57; refine (hfu _ (HBL.out.alloc HBL.out.size _)).mono ?_; clear hfu; rintro e w2 ⟨rfl, hb2⟩; have HB2 : Hid (Bd w.heap.size w.heap.size ([] ++ D) w2) := HBD.out.below (((Below.refl _ _).alloc (Nat.le_refl _) _).trans (hb2.mono (by simp))); have HX2 : Hid (w2.heap[wr.heap.size]? = some (.cells #[.string ⟨#[115]⟩, .int .i64 1000] 97 (0, 0))) := (hb2.block wr.heap.size (by simp)).trans (heap_alloc_new wr _); have HW2 : Hid (Below w.heap.size w w2) := (HBL.out.alloc HBL.out.size _).trans (hb2.mono (by simp; exact Nat.le_succ_of_le HBL.out.size)); clear hb2)
          | (go_at_call 56; refine (ws_any _ _ ([] ++ D) ⟨dd.toArray⟩ _ HB2.out (by simp <;> omega) (by simp [ByteArray.size] <;> omega) HW2.out.size).mono ?_; rintro e w3 ⟨rfl, hB3, hk3⟩; have HB3 : Hid (Bd w.heap.size w.heap.size ([] ++ D ++ dd) w3) := (by show Bd _ _ _ _; simpa using hB3); have HX3 : Hid _ := unit_kept hk3 HB2.out HX2.out; have HW3 : Hid (Below w.heap.size w w3) := HW2.out.trans hk3.below; clear hB3 hk3 HB2 HX2 HW2; obtain ⟨x0, x1⟩ := unit_cells HX3.out)
          | (go_at_call 56; refine (ws_any _ _ ([] ++ D ++ dd) ⟨#[115]⟩ _ HB3.out (by simp <;> omega) (by decide) HW3.out.size).mono ?_; rintro e w4 ⟨rfl, hB4, hk4⟩; have HB4 : Hid (Bd w.heap.size w.heap.size ([] ++ (D ++ (dd ++ [115]))) w4) := (by show Bd _ _ _ _; simpa using hB4); have HX4 : Hid _ := unit_kept hk4 HB3.out HX3.out; have HW4 : Hid (Below w.heap.size w w4) := HW3.out.trans hk4.below; clear hB4 hk4 HB3 HX3 HW3; obtain ⟨y0, y1⟩ := unit_cells HX4.out))
        go_roundw
        case rel => exact ⟨6, by decide, rfl, by rw [HST.out]; rfl, by rw [HST.out]; simp; omega, by rw [HST.out]; exact Nat.le_trans (Nat.mod_le _ _) hll, by rw [HST.out]; exact HB4.out, HW4.out⟩
        case measure => simp [intOf]
      · rw [if_neg hpos] at hst2
        have HST : Hid (durK n (5 + 1) = (D, L % 1000)) := by rw [List.append_nil] at hst2; exact hst2
        have hq1 : ((L : Int) / 1000) = 0 := by omega
        clear hst2
        go_wp2
        go_roundw
        case rel => exact ⟨6, by decide, rfl, by rw [HST.out]; rfl, by rw [HST.out]; show D.length ≤ _; omega, by rw [HST.out]; exact Nat.le_trans (Nat.mod_le _ _) hll, by rw [HST.out]; exact HBD.out.below ((Below.refl _ _).alloc (Nat.le_refl _) _), HBL.out.alloc HBL.out.size _⟩
        case measure => simp [intOf]
    · have hst := durK_succ n 6 (by decide) ([109, 115], 1) rfl
      have hcl : (durK n 6).2 < lim := by have h9 := HLIM.out 6 ([109, 115], 1) rfl; rwa [Nat.div_one] at h9
      obtain ⟨L, hL⟩ : ∃ L, L = (durK n 6).2 := ⟨_, rfl⟩
      obtain ⟨D, hD⟩ : ∃ D, D = (durK n 6).1 := ⟨_, rfl⟩
      rw [← hL] at hcl hll ⊢
      rw [← hD] at hBd hdl
      have hst2 : durK n (6 + 1) = (D ++ (if 0 < L then Lib.decDigits (L) ++ [109, 115] else []), 0) := by rw [hst, hL, hD]; unfold durS; simp [Nat.mod_one]
      have HBD : Hid (Bd w.heap.size w.heap.size ([] ++ D) wr) := hBd
      have hix : ∀ W : World, (Instr.index 98 (.agg #[.string ⟨#[121]⟩, .int .i64 31536000000, .string ⟨#[119]⟩, .int .i64 604800000, .string ⟨#[100]⟩, .int .i64 86400000, .string ⟨#[104]⟩, .int .i64 3600000, .string ⟨#[109]⟩, .int .i64 60000, .string ⟨#[115]⟩, .int .i64 1000, .string ⟨#[109, 115]⟩, .int .i64 1]) (.int .i64 6)).run Tryd.prog W = .ok (.agg #[.string ⟨#[109, 115]⟩, .int .i64 1]) W := fun W => by kernel_rfl
      clear hst hL hD hBd
      by_cases hpos : 0 < L
      · rw [if_pos hpos] at hst2
        have HST : Hid (durK n (6 + 1) = (D ++ (Lib.decDigits (L) ++ [109, 115]), 0)) := hst2
        have hdd : (Lib.decDigits (L)).length ≤ 20 := dec_len _ (by omega)
        obtain ⟨dd, hdd2⟩ : ∃ dd, dd = Lib.decDigits (L) := ⟨_, rfl⟩
        have hfu := HFU.out (L) hcl
        have hec : (((L : Nat)) : Int) = (L : Int) := by omega
        rw [← hdd2, hec] at hfu
        rw [← hdd2] at HST hdd
        clear hst2 hdd2
        have hqp : (0 : Int) < (L : Int) := by omega
        go_wp2_with (first
          | (go_at_call 57; refine (hfu _ (HBL.out.alloc HBL.out.size _)).mono ?_; clear hfu; rintro e w2 ⟨rfl, hb2⟩; have HB2 : Hid (Bd w.heap.size w.heap.size ([] ++ D) w2) := HBD.out.below (((Below.refl _ _).alloc (Nat.le_refl _) _).trans (hb2.mono (by simp))); have HX2 : Hid (w2.heap[wr.heap.size]? = some (.cells #[.string ⟨#[109, 115]⟩, .int .i64 1] 97 (0, 0))) := (hb2.block wr.heap.size (by simp)).trans (heap_alloc_new wr _); have HW2 : Hid (Below w.heap.size w w2) := (HBL.out.alloc HBL.out.size _).trans (hb2.mono (by simp; exact Nat.le_succ_of_le HBL.out.size)); clear hb2)
          | (go_at_call 56; refine (ws_any _ _ ([] ++ D) ⟨dd.toArray⟩ _ HB2.out (by simp <;> omega) (by simp [ByteArray.size] <;> omega) HW2.out.size).mono ?_; rintro e w3 ⟨rfl, hB3, hk3⟩; have HB3 : Hid (Bd w.heap.size w.heap.size ([] ++ D ++ dd) w3) := (by show Bd _ _ _ _; simpa using hB3); have HX3 : Hid _ := unit_kept hk3 HB2.out HX2.out; have HW3 : Hid (Below w.heap.size w w3) := HW2.out.trans hk3.below; clear hB3 hk3 HB2 HX2 HW2; obtain ⟨x0, x1⟩ := unit_cells HX3.out)
          | (go_at_call 56; refine (ws_any _ _ ([] ++ D ++ dd) ⟨#[109, 115]⟩ _ HB3.out (by simp <;> omega) (by decide) HW3.out.size).mono ?_; rintro e w4 ⟨rfl, hB4, hk4⟩; have HB4 : Hid (Bd w.heap.size w.heap.size ([] ++ (D ++ (dd ++ [109, 115]))) w4) := (by show Bd _ _ _ _; simpa using hB4); have HX4 : Hid _ := unit_kept hk4 HB3.out HX3.out; have HW4 : Hid (Below w.heap.size w w4) := HW3.out.trans hk4.below; clear hB4 hk4 HB3 HX3 HW3; obtain ⟨y0, y1⟩ := unit_cells HX4.out))
        go_roundw
        case rel => exact ⟨7, by decide, rfl, by rw [HST.out]; rfl, by rw [HST.out]; simp; omega, by rw [HST.out]; exact Nat.zero_le _, by rw [HST.out]; exact HB4.out, HW4.out⟩
        case measure => simp [intOf]
      · rw [if_neg hpos] at hst2
        have HST : Hid (durK n (6 + 1) = (D, 0)) := by rw [List.append_nil] at hst2; exact hst2
        have hq1 : ((L : Int)) = 0 := by omega
        clear hst2
        go_wp2
        go_roundw
        case rel => exact ⟨7, by decide, rfl, by rw [HST.out]; rfl, by rw [HST.out]; show D.length ≤ _; omega, by rw [HST.out]; exact Nat.zero_le _, by rw [HST.out]; exact HBD.out.below ((Below.refl _ _).alloc (Nat.le_refl _) _), HBL.out.alloc HBL.out.size _⟩
        case measure => simp [intOf]
    · have HBD : Hid (Bd w.heap.size w.heap.size ([] ++ (durK n 7).1) wr) := hBd
      clear hBd
      go_wp2_with (go_at_call 58; refine (Any.Builder_String_any_k Tryd.lays169 Tryd.Builder_Extra_169 _ _ ([] ++ (durK n 7).1) _ HBD.out HBL.out.size).mono ?_; rintro e w5 ⟨rfl, hB5, hk5, hk6⟩; have HW5 : Hid (Below w.heap.size w w5) := HBL.out.trans hk5; clear hB5 hk5 hk6)
      go_ret
      exact ⟨rfl, HW5.out⟩
end Go.Proofs.YtinfnkhghmcelaaDoor
