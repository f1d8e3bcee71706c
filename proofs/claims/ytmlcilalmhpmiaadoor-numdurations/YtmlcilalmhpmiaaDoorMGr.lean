/- Texts that belong together. -/
import Derived.Test.YtmlcilalmhpmiaaDoorMGq
import Derived.Test.YtmlcilalmhpmiaaDoorMGj
import Derived.Test.YtmlcilalmhpmiaaDoorMEl
/- NumDurations. -/
namespace Go.Proofs.YtmlcilalmhpmiaaDoor
open Go.RowKit Go.Maps

theorem ret_i {a b : Int} (h : a = b) : Ending.returned (.int .i64 a) = .returned (.int .i64 b) := by rw [h]
theorem emod_of_tmod (n m : Int) : n % m = (n.tmod m) % m := by
  have h := Int.mul_tdiv_add_tmod n m
  conv => lhs; rw [← h, Int.add_comm]
  rw [Int.add_mul_emod_self_left]

set_option maxRecDepth 100000 in
set_option maxHeartbeats 1000000 in
theorem keepWithin_any (n m : Int) (w : World) (hm : 1 ≤ m) (hm' : m ≤ 4611686018427387904) (_hn : -9223372036854775808 ≤ n) (_hn' : n ≤ 9223372036854775807) :
    Calls Tryd.prog 17 #[.int .i64 n, .int .i64 m] w fun e w' => e = .returned (.int .i64 (n % m)) ∧ w' = w := by
  have hmz : m ≠ 0 := by omega
  have h1 : -m < Int.tmod n m := by
    have := Int.lt_tmod_of_pos n (show 0 < m by omega); omega
  have h2 : Int.tmod n m < m := Int.tmod_lt_of_pos n (by omega)
  by_cases h : Int.tmod n m < 0
  · go_enter Tryd.func17, Tryd.ntmps17
    go_wp2
    go_ret
    have e : n.tmod m + m = n % m := by
      have e2 := Int.add_mul_emod_self_left (n.tmod m) m 1
      rw [Int.mul_one] at e2
      rw [emod_of_tmod, ← e2]
      exact (Int.emod_eq_of_lt (by omega) (by omega)).symm
    exact ⟨ret_i e, rfl⟩
  · go_enter Tryd.func17, Tryd.ntmps17
    go_wp2
    go_ret
    have e : n.tmod m = n % m := by
      rw [emod_of_tmod]
      exact (Int.emod_eq_of_lt (by omega) (by omega)).symm
    exact ⟨ret_i e, rfl⟩


theorem refDurRead_any (s : List UInt8) (w : World) (hs : s.length ≤ maxLen) : Calls Tryd.prog 26 #[.string ⟨s.toArray⟩] w fun e w' => e = .returned (.tuple #[.int .i64 (durR s).1, .int .i64 (durR s).2]) ∧ Below w.heap.size w w' := by
  by_cases h48 : s = [48]
  · subst h48
    exact refDurRead_zero w
  · by_cases h0 : s = []
    · subst h0
      exact refDurRead_nil w
    · refine refDurRead_more s ⟨s.toArray⟩ (durR s) w (by rw [sizeL]; exact hs) (by rw [toL]; exact h48) (by rw [sizeL]; exact List.length_pos_iff.2 h0) rfl (sizeL s).symm (fun k h h' => getT ⟨s.toArray⟩ k h (by simpa using h')) (durR_doc h48).symm
theorem durK_len (n : Nat) (hn : n < 18446744073709551616) : ∀ k, k ≤ 7 → (durK n k).1.length ≤ 22 * k
  | 0, _ => by simp [durK]
  | k + 1, hk => by
    have h1 := durK_len n hn k (by omega)
    obtain ⟨u, hu⟩ : ∃ u, unitsL[k]? = some u := ⟨unitsL[k]'(show k < unitsL.length from by show k < 7; omega), List.getElem?_eq_getElem _⟩
    rw [durK_succ n k (by omega) u hu]
    have h2 : (Lib.decDigits ((durK n k).2 / u.2)).length ≤ 20 := dec_len _ (by
      have q1 := durK_le n k
      have q2 : (durK n k).2 / u.2 ≤ (durK n k).2 := Nat.div_le_self _ _
      omega)
    have h3 : u.1.length ≤ 2 := by
      rcases (show k = 0 ∨ k = 1 ∨ k = 2 ∨ k = 3 ∨ k = 4 ∨ k = 5 ∨ k = 6 by omega) with rfl | rfl | rfl | rfl | rfl | rfl | rfl <;> (cases hu; decide)
    show ((durK n k).1 ++ _).length ≤ _
    rw [List.length_append]
    split
    · rw [List.length_append]
      omega
    · simp
      omega
theorem durT_len (k : Nat) (hk : k ≤ 9007199254740992) : (durT k).length ≤ 200 := by
  unfold durT
  split
  · decide
  · split
    · omega
    · have h9 := durK_len ((k : Int)).natAbs (by omega) 7 (Nat.le_refl _)
      rw [List.nil_append]
      omega

set_option maxRecDepth 100000 in
set_option maxHeartbeats 1000000 in
theorem durs_core (ms : Int) (s : ByteArray) (w : World) (hn : inI ms) (hs : s.size ≤ maxLen) (hU : Units w) (hP : Pow w) :
    Calls Tryd.prog 7 #[.int .i64 ms, .string s] w fun e w' => e = .returned (.bool true) ∧ Below w.heap.size w w' := by
  obtain ⟨k, hk⟩ : ∃ k, k = ms % 9007199254740993 := ⟨_, rfl⟩
  have hk0 : 0 ≤ k ∧ k ≤ 9007199254740992 := by omega
  obtain ⟨tx, htx⟩ : ∃ tx : Int → ByteArray, tx = fun m => ⟨(durT m).toArray⟩ := ⟨_, rfl⟩
  obtain ⟨sx, hsx⟩ : ∃ sx : Int → ByteArray, sx = fun m => ⟨(secT m).toArray⟩ := ⟨_, rfl⟩
  obtain ⟨dv, hdv⟩ : ∃ dv : ByteArray → Int, dv = fun a => (durR a.data.toList).1 := ⟨_, rfl⟩
  obtain ⟨de, hde⟩ : ∃ de : ByteArray → Int, de = fun a => (durR a.data.toList).2 := ⟨_, rfl⟩
  have HT : Hid (∀ m, inI m → ∀ W : World, Below w.heap.size w W → Calls Tryd.prog 27 #[.int .i64 m] W fun e w' => e = .returned (.string (tx m)) ∧ Below W.heap.size W w') := fun m hm W hb => by
    rw [htx]
    exact durText_any m W hm.1 hm.2 (hU.below hb) (hP.below hb)
  have HRT : Hid (∀ m, inI m → ∀ W : World, Calls Tryd.prog 28 #[.int .i64 m] W fun e w' => e = .returned (.string (tx m)) ∧ Below W.heap.size W w') := fun m hm W => by
    rw [htx]
    exact refDurText_any m W hm.1 hm.2
  have HSC : Hid (∀ m, inI m → ∀ W : World, Below w.heap.size w W → Calls Tryd.prog 29 #[.int .i64 m] W fun e w' => e = .returned (.string (sx m)) ∧ Below W.heap.size W w') := fun m hm W hb => by
    rw [hsx]
    exact seconds_any m W hm.1 hm.2 (hP.below hb)
  have HRS : Hid (∀ m, inI m → ∀ W : World, Calls Tryd.prog 30 #[.int .i64 m] W fun e w' => e = .returned (.string (sx m)) ∧ Below W.heap.size W w') := fun m hm W => by
    rw [hsx]
    exact refSeconds_any m W hm.1 hm.2
  have back : ∀ a : ByteArray, (⟨a.data.toList.toArray⟩ : ByteArray) = a := fun a => by cases a; simp
  have HD : Hid (∀ a : ByteArray, a.size ≤ maxLen → ∀ W : World, Below w.heap.size w W → Calls Tryd.prog 25 #[.string a] W fun e w' => e = .returned (.tuple #[.int .i64 (dv a), .int .i64 (de a)]) ∧ Below W.heap.size W w') := fun a ha W hb => by
    rw [hdv, hde]
    have h9 := durRead_any a.data.toList W (by simpa using ha) (hU.below hb)
    rw [back a] at h9
    exact h9
  have HRD : Hid (∀ a : ByteArray, a.size ≤ maxLen → ∀ W : World, Calls Tryd.prog 26 #[.string a] W fun e w' => e = .returned (.tuple #[.int .i64 (dv a), .int .i64 (de a)]) ∧ Below W.heap.size W w') := fun a ha W => by
    rw [hdv, hde]
    have h9 := refDurRead_any a.data.toList W (by simpa using ha)
    rw [back a] at h9
    exact h9
  have HWI : Hid (∀ W : World, Calls Tryd.prog 17 #[.int .i64 ms, .int .i64 9007199254740993] W fun e w' => e = .returned (.int .i64 k) ∧ w' = W) := fun W => by
    rw [hk]
    exact keepWithin_any ms 9007199254740993 W (by omega) (by omega) hn.1 hn.2
  have HWK : Hid (∀ W : World, Below w.heap.size w W → Calls Tryd.prog 13 #[] W fun e w' => e = .returned (.bool true) ∧ Below W.heap.size W w') := fun W hb => wakes_any W (hU.below hb)
  have hkn : k = ((k.toNat : Nat) : Int) := by omega
  have hbk : durR (durT k) = (k, 0) := by
    rw [hkn]
    exact durR_back k.toNat (by omega)
  have hv1 : dv (tx k) = k := by rw [hdv, htx]; show (durR (durT k)).1 = k; rw [hbk]
  have he1 : de (tx k) = 0 := by rw [hde, htx]; show (durR (durT k)).2 = 0; rw [hbk]
  have HSZ : Hid ((tx k).size ≤ maxLen) := by
    show _ ≤ _
    have h9 := durT_len k.toNat (by omega)
    rw [← hkn] at h9
    rw [htx]
    show (⟨(durT k).toArray⟩ : ByteArray).size ≤ maxLen
    rw [sizeL]
    unfold maxLen
    omega
  have HSS : Hid (s.size ≤ maxLen) := hs
  have HK : Hid (inI k) := by show inI k; unfold inI; omega
  have HN : Hid (inI ms) := hn
  have HBL : Hid (Below w.heap.size w w) := Below.refl _ _
  clear htx hsx hdv hde hU hP hn hk hkn hbk back hs hk0
  go_enter Tryd.func7, Tryd.ntmps7
  go_wp2_with (first
    | (go_at_call 25; refine (HD.out _ (by first | exact HSS.out | exact HSZ.out) _ HBL.out).mono ?_; rintro e w1 ⟨rfl, hb1⟩; have HB1 : Hid (Below w.heap.size w w1) := HBL.out.trans (hb1.mono HBL.out.size); clear hb1 HBL; have HBL : Hid (Below w.heap.size w w1) := HB1.out; clear HB1)
    | (go_at_call 26; refine (HRD.out _ HSS.out _).mono ?_; rintro e w1 ⟨rfl, hb1⟩; have HB1 : Hid (Below w.heap.size w w1) := HBL.out.trans (hb1.mono HBL.out.size); clear hb1 HBL; have HBL : Hid (Below w.heap.size w w1) := HB1.out; clear HB1)
    | (go_at_call 27; refine (HT.out _ (by first | exact HN.out | exact HK.out) _ HBL.out).mono ?_; rintro e w1 ⟨rfl, hb1⟩; have HB1 : Hid (Below w.heap.size w w1) := HBL.out.trans (hb1.mono HBL.out.size); clear hb1 HBL; have HBL : Hid (Below w.heap.size w w1) := HB1.out; clear HB1)
    | (go_at_call 28; refine (HRT.out _ HN.out _).mono ?_; rintro e w1 ⟨rfl, hb1⟩; have HB1 : Hid (Below w.heap.size w w1) := HBL.out.trans (hb1.mono HBL.out.size); clear hb1 HBL; have HBL : Hid (Below w.heap.size w w1) := HB1.out; clear HB1)
    | (go_at_call 29; refine (HSC.out _ HN.out _ HBL.out).mono ?_; rintro e w1 ⟨rfl, hb1⟩; have HB1 : Hid (Below w.heap.size w w1) := HBL.out.trans (hb1.mono HBL.out.size); clear hb1 HBL; have HBL : Hid (Below w.heap.size w w1) := HB1.out; clear HB1)
    | (go_at_call 30; refine (HRS.out _ HN.out _).mono ?_; rintro e w1 ⟨rfl, hb1⟩; have HB1 : Hid (Below w.heap.size w w1) := HBL.out.trans (hb1.mono HBL.out.size); clear hb1 HBL; have HBL : Hid (Below w.heap.size w w1) := HB1.out; clear HB1)
    | (go_at_call 17; refine (HWI.out _).mono ?_; rintro e w1 ⟨rfl, hw1⟩; have hw1 := hw1.symm; subst hw1)
    | (go_at_call 13; refine (HWK.out _ HBL.out).mono ?_; rintro e w1 ⟨rfl, hb1⟩; have HB1 : Hid (Below w.heap.size w w1) := HBL.out.trans (hb1.mono HBL.out.size); clear hb1 HBL; have HBL : Hid (Below w.heap.size w w1) := HB1.out; clear HB1))
  go_ret
  exact ⟨rfl, HBL.out⟩
theorem durs_w (ms : Int) (s : ByteArray) (W : World) (hn : -9223372036854775808 ≤ ms ∧ ms ≤ 9223372036854775807) (hs : s.size ≤ maxLen) (h : Units W ∧ Pow W) :
    Calls Tryd.prog 7 #[.int .i64 ms, .string s] W fun e w' => e = .returned (.bool true) ∧ Below W.heap.size W w' := durs_core ms s W hn hs h.1 h.2
end Go.Proofs.YtmlcilalmhpmiaaDoor

/- What comes in at NumDurations: the units, the table of the powers of ten; a text. -/
namespace Go.Proofs.YtmlcilalmhpmiaaDoor
open Go.ChangeShapes Go.WideShapes Go.ChangeAt Go.RowKit

theorem laid_durs {W : World} (h : laidMetH Tryd.prog Rows.numDurationsRow.laid W) : Units W ∧ Pow W := by
  rw [MakeChecks.laidMetH_plain _ _ _ (by kernel_rfl)] at h
  exact ⟨laid_units h (.tail _ (.tail _ (.tail _ (.tail _ (.head _))))), laid_pow h (.tail _ (.tail _ (.head _)))⟩
/-- A world that holds what the row of NumDurations lists. -/
def laidD (w0 : World) : World := { laidW w0 with heap := ((laidW w0).heap.modify 9 (putC (lits Rows.laid_unicode_utf8_acceptRanges).toArray)).modify 8 (putC (lits Rows.laid_unicode_utf8_first).toArray) }
theorem str_reach {H : Type} {enc : TypeId × Value → H} {w : World} {s : ByteArray} {d : DataW H} {p : List MemPlace} (h : DataW.Trod enc Tryd.prog w 0 (fun _ => true) true 9 (.string s) d p) : s.size ≤ maxLen := by
  obtain ⟨fuel, hf⟩ := h
  obtain ⟨t, e, z, hw⟩ := DataW.trod_string Tryd.underlying9 hf
  simp [Value.cells] at e
  subst e
  have h9 : s.data.toList.length ≤ maxLen := by simpa [Lit.wf] using hw
  simpa using h9
end Go.Proofs.YtmlcilalmhpmiaaDoor
