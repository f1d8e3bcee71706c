/- A float's text with a power of ten. -/
import Derived.Test.YtinfnkhghmcelaaDoorMFc
namespace Go.Proofs.YtinfnkhghmcelaaDoor
open Go.RowKit Go.Maps

theorem wb_int (B b : Nat) (bs : List UInt8) (n : Int) (w : World) (h : Bd B b bs w) (h0 : 0 ≤ n) (h1 : n < 256) (hl : bs.length ≤ 1000000000) (hB : B ≤ w.heap.size) :
    Calls Tryd.prog 54 #[.pointer (some ⟨b, 0, none⟩), .int .u8 n] w fun e w' => e = .returned .nilIface ∧ Bd B b (bs ++ [UInt8.ofNat n.toNat]) w' ∧ BK B b w w' :=
  wb_lit B b bs (UInt8.ofNat n.toNat) n (by rw [UInt8.toNat_ofNat']; omega) w h hl hB
theorem lit46 : UInt8.ofNat (46 : Int).toNat = 46 := rfl
theorem lit48 : UInt8.ofNat (48 : Int).toNat = 48 := rfl
/-- 0.digits times ten to the e, with a power of ten. -/
def powR (d : List UInt8) (e : Int) : List UInt8 :=
  d.take 1 ++ (if 1 < d.length then 46 :: d.drop 1 else []) ++ (if e - 1 < 0 then [101, 45] else [101, 43]) ++ (if -10 < e - 1 ∧ e - 1 < 10 then [48] else []) ++ Lib.decDigits (e - 1).natAbs

set_option maxRecDepth 100000 in
set_option maxHeartbeats 1000000 in
theorem withPower_any (d : List UInt8) (e : Int) (w : World) (hd0 : 1 ≤ d.length) (hd : d.length ≤ 30) (h1 : -1000 ≤ e) (h2 : e ≤ 1000) (hp : Pow w) : Calls Tryd.prog 43 #[.string ⟨d.toArray⟩, .int .i64 e] w fun r w' => r = .returned (.string ⟨(powR d e).toArray⟩) ∧ Below w.heap.size w w' := by
  have hsz : (⟨d.toArray⟩ : ByteArray).size = d.length := by simp [ByteArray.size]
  have hx1 : (⟨d.toArray⟩ : ByteArray).extract 0 1 = ⟨(d.take 1).toArray⟩ := by
    apply ByteArray.ext
    simp
  have hx2 : (⟨d.toArray⟩ : ByteArray).extract 1 d.length = ⟨(d.drop 1).toArray⟩ := by
    apply ByteArray.ext
    simp
    exact List.take_of_length_le (by simp)
  have hs1 : (⟨(d.take 1).toArray⟩ : ByteArray).size ≤ 30 := by simp [ByteArray.size]; omega
  have hs2 : (⟨(d.drop 1).toArray⟩ : ByteArray).size ≤ 30 := by simp [ByteArray.size]; omega
  obtain ⟨p, hpe⟩ : ∃ p, p = e - 1 := ⟨_, rfl⟩
  have hpw : e - 1 = p := hpe.symm
  have hdl : (Lib.decDigits p.natAbs).length ≤ 20 := dec_len _ (by omega)
  have HR : Hid (powR d e = (⟨(d.take 1).toArray⟩ : ByteArray).data.toList ++ (if 1 < d.length then 46 :: (⟨(d.drop 1).toArray⟩ : ByteArray).data.toList else []) ++ (if p < 0 then [101, 45] else [101, 43]) ++ (if -10 < p ∧ p < 10 then [48] else []) ++ Lib.decDigits p.natAbs) := by
    show _ = _
    rw [hpe]
    rfl
  have HSZ : Hid (∀ W : World, Calls Tryd.prog 55 #[.int .i64 p] W fun e w' => e = .returned (.int .u64 (p.natAbs : Nat)) ∧ w' = W) := fun W => size_any p W (by omega) (by omega)
  have HFU : Hid (∀ W : World, Pow W → Calls Tryd.prog 57 #[.int .u64 (p.natAbs : Nat), .int .i64 10] W fun e w' => e = .returned (.string ⟨(Lib.decDigits p.natAbs).toArray⟩) ∧ Below W.heap.size W w') := fun W h => fu_any _ (by omega) W h
  have HPW : Hid (Pow w) := hp
  have HB : Hid (Bd w.heap.size w.heap.size [] (w.alloc (.cells #[.pointer none, .slice none 0 0] 91 (0, 0)))) := Bd.fresh w
  have HL : Hid (Below w.heap.size w (w.alloc (.cells #[.pointer none, .slice none 0 0] 91 (0, 0)))) := (Below.refl _ _).alloc (Nat.le_refl _) _
  generalize (⟨(d.take 1).toArray⟩ : ByteArray) = S1 at *
  generalize (⟨(d.drop 1).toArray⟩ : ByteArray) = S2 at *
  generalize powR d e = PR at *
  generalize (⟨d.toArray⟩ : ByteArray) = S at *
  generalize d.length = n at *
  obtain ⟨D, hD⟩ : ∃ D, D = Lib.decDigits p.natAbs := ⟨_, rfl⟩
  rw [← hD] at hdl HR HFU
  have hs3 : S1.data.size ≤ 30 := hs1
  have hs4 : S2.data.size ≤ 30 := hs2
  clear hp hpe hD
  rcases (show n = 1 ∨ 1 < n by omega) with hn | hn
  · have hn2 : ¬ (1 : Int) < (n : Int) := by omega
    have hn3 : ¬ 1 < n := by omega
    rcases (show p ≤ -10 ∨ (-10 < p ∧ p < 0) ∨ (0 ≤ p ∧ p < 10) ∨ 10 ≤ p by omega) with hq | ⟨hq, hr⟩ | ⟨hq, hr⟩ | hq
    · have q1 : p < 0 := by omega
      have q2 : ¬ (-10 < p) := by omega
      have q3 : ¬ (-10 < p ∧ p < 10) := by omega
      have HR2 : Hid (S1.data.toList ++ 101 :: 45 :: D = PR) := by
        show _ = _
        rw [HR.out, if_neg hn3, if_pos q1, if_neg q3]
        simp
      clear HR q3
      go_enter Tryd.func43, Tryd.ntmps43
      go_wp2_with (first
        | (go_at_call 56; refine (ws_any _ _ _ _ _ HB.out (by (first | omega | (simp only [List.length_append, List.length_cons, List.length_nil, Array.length_toList]; omega) | (unfold ByteArray.size; simp only [List.size_toArray, List.length_cons, List.length_nil]; omega))) (by (first | omega | (simp only [List.length_append, List.length_cons, List.length_nil, Array.length_toList]; omega) | (unfold ByteArray.size; simp only [List.size_toArray, List.length_cons, List.length_nil]; omega))) HL.out.size).mono ?_; rintro e w1 ⟨rfl, hB1, hk1⟩; have HL1 : Hid (Below w.heap.size w w1) := HL.out.trans hk1.below; clear HL HB; have HB : Hid (Bd w.heap.size w.heap.size _ w1) := hB1; have HL : Hid (Below w.heap.size w w1) := HL1.out; clear hB1 hk1 HL1)
        | (go_at_call 54; refine (wb_int _ _ _ _ _ HB.out (by decide) (by decide) (by (first | omega | (simp only [List.length_append, List.length_cons, List.length_nil, Array.length_toList]; omega) | (unfold ByteArray.size; simp only [List.size_toArray, List.length_cons, List.length_nil]; omega))) HL.out.size).mono ?_; rintro e w1 ⟨rfl, hB1, hk1⟩; simp only [lit46, lit48] at hB1; have HL1 : Hid (Below w.heap.size w w1) := HL.out.trans hk1.below; clear HL HB; have HB : Hid (Bd w.heap.size w.heap.size _ w1) := hB1; have HL : Hid (Below w.heap.size w w1) := HL1.out; clear hB1 hk1 HL1)
        | (go_at_call 55; refine (HSZ.out _).mono ?_; rintro e w2 ⟨rfl, hw2⟩; have hw2 := hw2.symm; subst hw2)
        | (go_at_call 57; refine (HFU.out _ (HPW.out.below HL.out)).mono ?_; rintro e w3 ⟨rfl, hb3⟩; have HB3 : Hid (Bd w.heap.size w.heap.size _ w3) := Bd.below HB.out hb3; have HL3 : Hid (Below w.heap.size w w3) := HL.out.trans (hb3.mono HL.out.size); clear HL HB hb3; have HB : Hid (Bd w.heap.size w.heap.size _ w3) := HB3.out; have HL : Hid (Below w.heap.size w w3) := HL3.out; clear HB3 HL3)
        | (go_at_call 58; refine (Any.Builder_String_any_k Tryd.lays169 Tryd.Builder_Extra_169 _ _ _ _ HB.out HL.out.size).mono ?_; rintro e w5 ⟨rfl, hB5, hk5, hk6⟩; have HW5 : Hid (Below w.heap.size w w5) := HL.out.trans hk5; clear hB5 hk5 hk6))
      go_ret
      exact ⟨by rw [← HR2.out]; rfl, HW5.out⟩
    · have q1 : p < 0 := by omega
      have q2 : -10 < p := by omega
      have q4 : p < 10 := by omega
      have q3 : -10 < p ∧ p < 10 := ⟨q2, q4⟩
      have HR2 : Hid (S1.data.toList ++ 101 :: 45 :: 48 :: D = PR) := by
        show _ = _
        rw [HR.out, if_neg hn3, if_pos q1, if_pos q3]
        simp
      clear HR q3
      go_enter Tryd.func43, Tryd.ntmps43
      go_wp2_with (first
        | (go_at_call 56; refine (ws_any _ _ _ _ _ HB.out (by (first | omega | (simp only [List.length_append, List.length_cons, List.length_nil, Array.length_toList]; omega) | (unfold ByteArray.size; simp only [List.size_toArray, List.length_cons, List.length_nil]; omega))) (by (first | omega | (simp only [List.length_append, List.length_cons, List.length_nil, Array.length_toList]; omega) | (unfold ByteArray.size; simp only [List.size_toArray, List.length_cons, List.length_nil]; omega))) HL.out.size).mono ?_; rintro e w1 ⟨rfl, hB1, hk1⟩; have HL1 : Hid (Below w.heap.size w w1) := HL.out.trans hk1.below; clear HL HB; have HB : Hid (Bd w.heap.size w.heap.size _ w1) := hB1; have HL : Hid (Below w.heap.size w w1) := HL1.out; clear hB1 hk1 HL1)
        | (go_at_call 54; refine (wb_int _ _ _ _ _ HB.out (by decide) (by decide) (by (first | omega | (simp only [List.length_append, List.length_cons, List.length_nil, Array.length_toList]; omega) | (unfold ByteArray.size; simp only [List.size_toArray, List.length_cons, List.length_nil]; omega))) HL.out.size).mono ?_; rintro e w1 ⟨rfl, hB1, hk1⟩; simp only [lit48] at hB1; have HL1 : Hid (Below w.heap.size w w1) := HL.out.trans hk1.below; clear HL HB; have HB : Hid (Bd w.heap.size w.heap.size _ w1) := hB1; have HL : Hid (Below w.heap.size w w1) := HL1.out; clear hB1 hk1 HL1)
        | (go_at_call 55; refine (HSZ.out _).mono ?_; rintro e w2 ⟨rfl, hw2⟩; have hw2 := hw2.symm; subst hw2)
        | (go_at_call 57; refine (HFU.out _ (HPW.out.below HL.out)).mono ?_; rintro e w3 ⟨rfl, hb3⟩; have HB3 : Hid (Bd w.heap.size w.heap.size _ w3) := Bd.below HB.out hb3; have HL3 : Hid (Below w.heap.size w w3) := HL.out.trans (hb3.mono HL.out.size); clear HL HB hb3; have HB : Hid (Bd w.heap.size w.heap.size _ w3) := HB3.out; have HL : Hid (Below w.heap.size w w3) := HL3.out; clear HB3 HL3)
        | (go_at_call 58; refine (Any.Builder_String_any_k Tryd.lays169 Tryd.Builder_Extra_169 _ _ _ _ HB.out HL.out.size).mono ?_; rintro e w5 ⟨rfl, hB5, hk5, hk6⟩; have HW5 : Hid (Below w.heap.size w w5) := HL.out.trans hk5; clear hB5 hk5 hk6))
      go_ret
      exact ⟨by rw [← HR2.out]; rfl, HW5.out⟩
    · have q1 : ¬ p < 0 := by omega
      have q2 : -10 < p := by omega
      have q4 : p < 10 := by omega
      have q3 : -10 < p ∧ p < 10 := ⟨q2, q4⟩
      have HR2 : Hid (S1.data.toList ++ 101 :: 43 :: 48 :: D = PR) := by
        show _ = _
        rw [HR.out, if_neg hn3, if_neg q1, if_pos q3]
        simp
      clear HR q3
      go_enter Tryd.func43, Tryd.ntmps43
      go_wp2_with (first
        | (go_at_call 56; refine (ws_any _ _ _ _ _ HB.out (by (first | omega | (simp only [List.length_append, List.length_cons, List.length_nil, Array.length_toList]; omega) | (unfold ByteArray.size; simp only [List.size_toArray, List.length_cons, List.length_nil]; omega))) (by (first | omega | (simp only [List.length_append, List.length_cons, List.length_nil, Array.length_toList]; omega) | (unfold ByteArray.size; simp only [List.size_toArray, List.length_cons, List.length_nil]; omega))) HL.out.size).mono ?_; rintro e w1 ⟨rfl, hB1, hk1⟩; have HL1 : Hid (Below w.heap.size w w1) := HL.out.trans hk1.below; clear HL HB; have HB : Hid (Bd w.heap.size w.heap.size _ w1) := hB1; have HL : Hid (Below w.heap.size w w1) := HL1.out; clear hB1 hk1 HL1)
        | (go_at_call 54; refine (wb_int _ _ _ _ _ HB.out (by decide) (by decide) (by (first | omega | (simp only [List.length_append, List.length_cons, List.length_nil, Array.length_toList]; omega) | (unfold ByteArray.size; simp only [List.size_toArray, List.length_cons, List.length_nil]; omega))) HL.out.size).mono ?_; rintro e w1 ⟨rfl, hB1, hk1⟩; simp only [lit48] at hB1; have HL1 : Hid (Below w.heap.size w w1) := HL.out.trans hk1.below; clear HL HB; have HB : Hid (Bd w.heap.size w.heap.size _ w1) := hB1; have HL : Hid (Below w.heap.size w w1) := HL1.out; clear hB1 hk1 HL1)
        | (go_at_call 55; refine (HSZ.out _).mono ?_; rintro e w2 ⟨rfl, hw2⟩; have hw2 := hw2.symm; subst hw2)
        | (go_at_call 57; refine (HFU.out _ (HPW.out.below HL.out)).mono ?_; rintro e w3 ⟨rfl, hb3⟩; have HB3 : Hid (Bd w.heap.size w.heap.size _ w3) := Bd.below HB.out hb3; have HL3 : Hid (Below w.heap.size w w3) := HL.out.trans (hb3.mono HL.out.size); clear HL HB hb3; have HB : Hid (Bd w.heap.size w.heap.size _ w3) := HB3.out; have HL : Hid (Below w.heap.size w w3) := HL3.out; clear HB3 HL3)
        | (go_at_call 58; refine (Any.Builder_String_any_k Tryd.lays169 Tryd.Builder_Extra_169 _ _ _ _ HB.out HL.out.size).mono ?_; rintro e w5 ⟨rfl, hB5, hk5, hk6⟩; have HW5 : Hid (Below w.heap.size w w5) := HL.out.trans hk5; clear hB5 hk5 hk6))
      go_ret
      exact ⟨by rw [← HR2.out]; rfl, HW5.out⟩
    · have q1 : ¬ p < 0 := by omega
      have q2 : -10 < p := by omega
      have q4 : ¬ p < 10 := by omega
      have q3 : ¬ (-10 < p ∧ p < 10) := by omega
      have HR2 : Hid (S1.data.toList ++ 101 :: 43 :: D = PR) := by
        show _ = _
        rw [HR.out, if_neg hn3, if_neg q1, if_neg q3]
        simp
      clear HR q3
      go_enter Tryd.func43, Tryd.ntmps43
      go_wp2_with (first
        | (go_at_call 56; refine (ws_any _ _ _ _ _ HB.out (by (first | omega | (simp only [List.length_append, List.length_cons, List.length_nil, Array.length_toList]; omega) | (unfold ByteArray.size; simp only [List.size_toArray, List.length_cons, List.length_nil]; omega))) (by (first | omega | (simp only [List.length_append, List.length_cons, List.length_nil, Array.length_toList]; omega) | (unfold ByteArray.size; simp only [List.size_toArray, List.length_cons, List.length_nil]; omega))) HL.out.size).mono ?_; rintro e w1 ⟨rfl, hB1, hk1⟩; have HL1 : Hid (Below w.heap.size w w1) := HL.out.trans hk1.below; clear HL HB; have HB : Hid (Bd w.heap.size w.heap.size _ w1) := hB1; have HL : Hid (Below w.heap.size w w1) := HL1.out; clear hB1 hk1 HL1)
        | (go_at_call 54; refine (wb_int _ _ _ _ _ HB.out (by decide) (by decide) (by (first | omega | (simp only [List.length_append, List.length_cons, List.length_nil, Array.length_toList]; omega) | (unfold ByteArray.size; simp only [List.size_toArray, List.length_cons, List.length_nil]; omega))) HL.out.size).mono ?_; rintro e w1 ⟨rfl, hB1, hk1⟩; simp only [lit46, lit48] at hB1; have HL1 : Hid (Below w.heap.size w w1) := HL.out.trans hk1.below; clear HL HB; have HB : Hid (Bd w.heap.size w.heap.size _ w1) := hB1; have HL : Hid (Below w.heap.size w w1) := HL1.out; clear hB1 hk1 HL1)
        | (go_at_call 55; refine (HSZ.out _).mono ?_; rintro e w2 ⟨rfl, hw2⟩; have hw2 := hw2.symm; subst hw2)
        | (go_at_call 57; refine (HFU.out _ (HPW.out.below HL.out)).mono ?_; rintro e w3 ⟨rfl, hb3⟩; have HB3 : Hid (Bd w.heap.size w.heap.size _ w3) := Bd.below HB.out hb3; have HL3 : Hid (Below w.heap.size w w3) := HL.out.trans (hb3.mono HL.out.size); clear HL HB hb3; have HB : Hid (Bd w.heap.size w.heap.size _ w3) := HB3.out; have HL : Hid (Below w.heap.size w w3) := HL3.out; clear HB3 HL3)
        | (go_at_call 58; refine (Any.Builder_String_any_k Tryd.lays169 Tryd.Builder_Extra_169 _ _ _ _ HB.out HL.out.size).mono ?_; rintro e w5 ⟨rfl, hB5, hk5, hk6⟩; have HW5 : Hid (Below w.heap.size w w5) := HL.out.trans hk5; clear hB5 hk5 hk6))
      go_ret
      exact ⟨by rw [← HR2.out]; rfl, HW5.out⟩
  · have hn2 : (1 : Int) < (n : Int) := by omega
    rcases (show p ≤ -10 ∨ (-10 < p ∧ p < 0) ∨ (0 ≤ p ∧ p < 10) ∨ 10 ≤ p by omega) with hq | ⟨hq, hr⟩ | ⟨hq, hr⟩ | hq
    · have q1 : p < 0 := by omega
      have q2 : ¬ (-10 < p) := by omega
      have q3 : ¬ (-10 < p ∧ p < 10) := by omega
      have HR2 : Hid (S1.data.toList ++ 46 :: (S2.data.toList ++ 101 :: 45 :: D) = PR) := by
        show _ = _
        rw [HR.out, if_pos hn, if_pos q1, if_neg q3]
        simp
      clear HR q3
      go_enter Tryd.func43, Tryd.ntmps43
      go_wp2_with (first
        | (go_at_call 56; refine (ws_any _ _ _ _ _ HB.out (by (first | omega | (simp only [List.length_append, List.length_cons, List.length_nil, Array.length_toList]; omega) | (unfold ByteArray.size; simp only [List.size_toArray, List.length_cons, List.length_nil]; omega))) (by (first | omega | (simp only [List.length_append, List.length_cons, List.length_nil, Array.length_toList]; omega) | (unfold ByteArray.size; simp only [List.size_toArray, List.length_cons, List.length_nil]; omega))) HL.out.size).mono ?_; rintro e w1 ⟨rfl, hB1, hk1⟩; have HL1 : Hid (Below w.heap.size w w1) := HL.out.trans hk1.below; clear HL HB; have HB : Hid (Bd w.heap.size w.heap.size _ w1) := hB1; have HL : Hid (Below w.heap.size w w1) := HL1.out; clear hB1 hk1 HL1)
        | (go_at_call 54; refine (wb_int _ _ _ _ _ HB.out (by decide) (by decide) (by (first | omega | (simp only [List.length_append, List.length_nil, Array.length_toList]; omega) | (unfold ByteArray.size; simp only [List.size_toArray, List.length_cons, List.length_nil]; omega))) HL.out.size).mono ?_; rintro e w1 ⟨rfl, hB1, hk1⟩; simp only [lit46] at hB1; have HL1 : Hid (Below w.heap.size w w1) := HL.out.trans hk1.below; clear HL HB; have HB : Hid (Bd w.heap.size w.heap.size _ w1) := hB1; have HL : Hid (Below w.heap.size w w1) := HL1.out; clear hB1 hk1 HL1)
        | (go_at_call 55; refine (HSZ.out _).mono ?_; rintro e w2 ⟨rfl, hw2⟩; have hw2 := hw2.symm; subst hw2)
        | (go_at_call 57; refine (HFU.out _ (HPW.out.below HL.out)).mono ?_; rintro e w3 ⟨rfl, hb3⟩; have HB3 : Hid (Bd w.heap.size w.heap.size _ w3) := Bd.below HB.out hb3; have HL3 : Hid (Below w.heap.size w w3) := HL.out.trans (hb3.mono HL.out.size); clear HL HB hb3; have HB : Hid (Bd w.heap.size w.heap.size _ w3) := HB3.out; have HL : Hid (Below w.heap.size w w3) := HL3.out; clear HB3 HL3)
        | (go_at_call 58; refine (Any.Builder_String_any_k Tryd.lays169 Tryd.Builder_Extra_169 _ _ _ _ HB.out HL.out.size).mono ?_; rintro e w5 ⟨rfl, hB5, hk5, hk6⟩; have HW5 : Hid (Below w.heap.size w w5) := HL.out.trans hk5; clear hB5 hk5 hk6))
      go_ret
      exact ⟨by rw [← HR2.out]; rfl, HW5.out⟩
    · have q1 : p < 0 := by omega
      have q2 : -10 < p := by omega
      have q4 : p < 10 := by omega
      have q3 : -10 < p ∧ p < 10 := ⟨q2, q4⟩
      have HR2 : Hid (S1.data.toList ++ 46 :: (S2.data.toList ++ 101 :: 45 :: 48 :: D) = PR) := by
        show _ = _
        rw [HR.out, if_pos hn, if_pos q1, if_pos q3]
        simp
      clear HR q3
      go_enter Tryd.func43, Tryd.ntmps43
      go_wp2_with (first
        | (go_at_call 56; refine (ws_any _ _ _ _ _ HB.out (by (first | omega | (simp only [List.length_append, List.length_cons, List.length_nil, Array.length_toList]; omega) | (unfold ByteArray.size; simp only [List.size_toArray, List.length_cons, List.length_nil]; omega))) (by (first | omega | (simp only [List.length_append, List.length_cons, List.length_nil, Array.length_toList]; omega) | (unfold ByteArray.size; simp only [List.size_toArray, List.length_cons, List.length_nil]; omega))) HL.out.size).mono ?_; rintro e w1 ⟨rfl, hB1, hk1⟩; have HL1 : Hid (Below w.heap.size w w1) := HL.out.trans hk1.below; clear HL HB; have HB : Hid (Bd w.heap.size w.heap.size _ w1) := hB1; have HL : Hid (Below w.heap.size w w1) := HL1.out; clear hB1 hk1 HL1)
        | (go_at_call 54; refine (wb_int _ _ _ _ _ HB.out (by decide) (by decide) (by (first | omega | (simp only [List.length_append, List.length_cons, List.length_nil, Array.length_toList]; omega) | (unfold ByteArray.size; simp only [List.size_toArray, List.length_cons, List.length_nil]; omega))) HL.out.size).mono ?_; rintro e w1 ⟨rfl, hB1, hk1⟩; simp only [lit46, lit48] at hB1; have HL1 : Hid (Below w.heap.size w w1) := HL.out.trans hk1.below; clear HL HB; have HB : Hid (Bd w.heap.size w.heap.size _ w1) := hB1; have HL : Hid (Below w.heap.size w w1) := HL1.out; clear hB1 hk1 HL1)
        | (go_at_call 55; refine (HSZ.out _).mono ?_; rintro e w2 ⟨rfl, hw2⟩; have hw2 := hw2.symm; subst hw2)
        | (go_at_call 57; refine (HFU.out _ (HPW.out.below HL.out)).mono ?_; rintro e w3 ⟨rfl, hb3⟩; have HB3 : Hid (Bd w.heap.size w.heap.size _ w3) := Bd.below HB.out hb3; have HL3 : Hid (Below w.heap.size w w3) := HL.out.trans (hb3.mono HL.out.size); clear HL HB hb3; have HB : Hid (Bd w.heap.size w.heap.size _ w3) := HB3.out; have HL : Hid (Below w.heap.size w w3) := HL3.out; clear HB3 HL3)
        | (go_at_call 58; refine (Any.Builder_String_any_k Tryd.lays169 Tryd.Builder_Extra_169 _ _ _ _ HB.out HL.out.size).mono ?_; rintro e w5 ⟨rfl, hB5, hk5, hk6⟩; have HW5 : Hid (Below w.heap.size w w5) := HL.out.trans hk5; clear hB5 hk5 hk6))
      go_ret
      exact ⟨by rw [← HR2.out]; rfl, HW5.out⟩
    · have q1 : ¬ p < 0 := by omega
      have q2 : -10 < p := by omega
      have q4 : p < 10 := by omega
      have q3 : -10 < p ∧ p < 10 := ⟨q2, q4⟩
      have HR2 : Hid (S1.data.toList ++ 46 :: (S2.data.toList ++ 101 :: 43 :: 48 :: D) = PR) := by
        show _ = _
        rw [HR.out, if_pos hn, if_neg q1, if_pos q3]
        simp
      clear HR q3
      go_enter Tryd.func43, Tryd.ntmps43
      go_wp2_with (first
        | (go_at_call 56; refine (ws_any _ _ _ _ _ HB.out (by (first | omega | (simp only [List.length_append, List.length_cons, List.length_nil, Array.length_toList]; omega) | (unfold ByteArray.size; simp only [List.size_toArray, List.length_cons, List.length_nil]; omega))) (by (first | omega | (simp only [List.length_append, List.length_cons, List.length_nil, Array.length_toList]; omega) | (unfold ByteArray.size; simp only [List.size_toArray, List.length_cons, List.length_nil]; omega))) HL.out.size).mono ?_; rintro e w1 ⟨rfl, hB1, hk1⟩; have HL1 : Hid (Below w.heap.size w w1) := HL.out.trans hk1.below; clear HL HB; have HB : Hid (Bd w.heap.size w.heap.size _ w1) := hB1; have HL : Hid (Below w.heap.size w w1) := HL1.out; clear hB1 hk1 HL1)
        | (go_at_call 54; refine (wb_int _ _ _ _ _ HB.out (by decide) (by decide) (by (first | omega | (simp only [List.length_append, List.length_cons, List.length_nil, Array.length_toList]; omega) | (unfold ByteArray.size; simp only [List.size_toArray, List.length_cons, List.length_nil]; omega))) HL.out.size).mono ?_; rintro e w1 ⟨rfl, hB1, hk1⟩; simp only [lit46, lit48] at hB1; have HL1 : Hid (Below w.heap.size w w1) := HL.out.trans hk1.below; clear HL HB; have HB : Hid (Bd w.heap.size w.heap.size _ w1) := hB1; have HL : Hid (Below w.heap.size w w1) := HL1.out; clear hB1 hk1 HL1)
        | (go_at_call 55; refine (HSZ.out _).mono ?_; rintro e w2 ⟨rfl, hw2⟩; have hw2 := hw2.symm; subst hw2)
        | (go_at_call 57; refine (HFU.out _ (HPW.out.below HL.out)).mono ?_; rintro e w3 ⟨rfl, hb3⟩; have HB3 : Hid (Bd w.heap.size w.heap.size _ w3) := Bd.below HB.out hb3; have HL3 : Hid (Below w.heap.size w w3) := HL.out.trans (hb3.mono HL.out.size); clear HL HB hb3; have HB : Hid (Bd w.heap.size w.heap.size _ w3) := HB3.out; have HL : Hid (Below w.heap.size w w3) := HL3.out; clear HB3 HL3)
        | (go_at_call 58; refine (Any.Builder_String_any_k Tryd.lays169 Tryd.Builder_Extra_169 _ _ _ _ HB.out HL.out.size).mono ?_; rintro e w5 ⟨rfl, hB5, hk5, hk6⟩; have HW5 : Hid (Below w.heap.size w w5) := HL.out.trans hk5; clear hB5 hk5 hk6))
      go_ret
      exact ⟨by rw [← HR2.out]; rfl, HW5.out⟩
    · have q1 : ¬ p < 0 := by omega
      have q2 : -10 < p := by omega
      have q4 : ¬ p < 10 := by omega
      have q3 : ¬ (-10 < p ∧ p < 10) := by omega
      have HR2 : Hid (S1.data.toList ++ 46 :: (S2.data.toList ++ 101 :: 43 :: D) = PR) := by
        show _ = _
        rw [HR.out, if_pos hn, if_neg q1, if_neg q3]
        simp
      clear HR q3
      go_enter Tryd.func43, Tryd.ntmps43
      go_wp2_with (first
        | (go_at_call 56; refine (ws_any _ _ _ _ _ HB.out (by (first | omega | (simp only [List.length_append, List.length_cons, List.length_nil, Array.length_toList]; omega) | (unfold ByteArray.size; simp only [List.size_toArray, List.length_cons, List.length_nil]; omega))) (by (first | omega | (simp only [List.length_append, List.length_cons, List.length_nil, Array.length_toList]; omega) | (unfold ByteArray.size; simp only [List.size_toArray, List.length_cons, List.length_nil]; omega))) HL.out.size).mono ?_; rintro e w1 ⟨rfl, hB1, hk1⟩; have HL1 : Hid (Below w.heap.size w w1) := HL.out.trans hk1.below; clear HL HB; have HB : Hid (Bd w.heap.size w.heap.size _ w1) := hB1; have HL : Hid (Below w.heap.size w w1) := HL1.out; clear hB1 hk1 HL1)
        | (go_at_call 54; refine (wb_int _ _ _ _ _ HB.out (by decide) (by decide) (by (first | omega | (simp only [List.length_append, List.length_nil, Array.length_toList]; omega) | (unfold ByteArray.size; simp only [List.size_toArray, List.length_cons, List.length_nil]; omega))) HL.out.size).mono ?_; rintro e w1 ⟨rfl, hB1, hk1⟩; simp only [lit46] at hB1; have HL1 : Hid (Below w.heap.size w w1) := HL.out.trans hk1.below; clear HL HB; have HB : Hid (Bd w.heap.size w.heap.size _ w1) := hB1; have HL : Hid (Below w.heap.size w w1) := HL1.out; clear hB1 hk1 HL1)
        | (go_at_call 55; refine (HSZ.out _).mono ?_; rintro e w2 ⟨rfl, hw2⟩; have hw2 := hw2.symm; subst hw2)
        | (go_at_call 57; refine (HFU.out _ (HPW.out.below HL.out)).mono ?_; rintro e w3 ⟨rfl, hb3⟩; have HB3 : Hid (Bd w.heap.size w.heap.size _ w3) := Bd.below HB.out hb3; have HL3 : Hid (Below w.heap.size w w3) := HL.out.trans (hb3.mono HL.out.size); clear HL HB hb3; have HB : Hid (Bd w.heap.size w.heap.size _ w3) := HB3.out; have HL : Hid (Below w.heap.size w w3) := HL3.out; clear HB3 HL3)
        | (go_at_call 58; refine (Any.Builder_String_any_k Tryd.lays169 Tryd.Builder_Extra_169 _ _ _ _ HB.out HL.out.size).mono ?_; rintro e w5 ⟨rfl, hB5, hk5, hk6⟩; have HW5 : Hid (Below w.heap.size w w5) := HL.out.trans hk5; clear hB5 hk5 hk6))
      go_ret
      exact ⟨by rw [← HR2.out]; rfl, HW5.out⟩
end Go.Proofs.YtinfnkhghmcelaaDoor
