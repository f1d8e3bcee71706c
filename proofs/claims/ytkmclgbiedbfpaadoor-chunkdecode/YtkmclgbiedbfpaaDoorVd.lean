/- The document's row of bits. -/
import Derived.Test.YtkmclgbiedbfpaaDoorVc
import Derived.Test.YtkmclgbiedbfpaaDoorKv
namespace Go.Proofs.YtkmclgbiedbfpaaDoor
open Go.RowKit Go.Maps

theorem wrap_sub_sg (a b c : UInt64) (h : c.toNat = (a.toNat + (18446744073709551616 - b.toNat)) % 18446744073709551616) : IntKind.i64.wrap (sg a - sg b) = sg c := by
  have ha := a.toNat_lt
  have hb := b.toNat_lt
  rw [IntWalk.i64_left]
  unfold wrap64 sg
  rw [h]
  split <;> split <;> split <;> omega
theorem sg_mod (a : UInt64) : (a.toNat : Int) = sg a % 18446744073709551616 := by
  have ha := a.toNat_lt
  unfold sg
  split <;> omega
theorem ofNat_back {n : Nat} (h : n < 18446744073709551616) : (UInt64.ofNat n).toNat = n := by rw [UInt64.toNat_ofNat']; omega
/-- the document's lead and tail -/
def Win (s : An) (lv tv : Int) : Prop := (s.size = 0 ∧ s.lead = 0 ∧ lv = -1 ∧ tv = -1) ∨ (0 < s.size ∧ lv = (s.lead : Int) ∧ tv = ((64 - s.lead - s.size : Nat) : Int))
theorem encS_take (l : List Sm) (k : Nat) (hk : k < l.length) : (encS (l.take (k + 1))).t = l[k].1.toNat ∧ (encS (l.take (k + 1))).v = l[k].2.toNat := by
  rw [List.take_succ_eq_append_getElem hk]
  by_cases h : l.take k = []
  · rw [h]
    exact ⟨rfl, rfl⟩
  · rw [encS_snoc _ _ h]
    exact ⟨rfl, rfl⟩
theorem rrow_len (l : List Sm) : (wb 16 l.length ++ encB l).length ≤ 16 + 200 * l.length + 200 := by
  have := encB_length l
  rw [List.length_append, wb_length]
  omega
theorem encB_one (l : List Sm) (x : Sm) (h : l = []) : encB (l ++ [x]) = encB l ++ (wb 64 x.1.toNat ++ wb 64 x.2.toNat) := by
  subst h
  show wb 64 _ ++ wb 64 _ ++ [] = [] ++ _
  simp
theorem take_nil {l : List Sm} {k : Nat} (h : k < l.length) (h0 : k ≠ 0) : l.take k ≠ [] := by
  intro e
  have := congrArg List.length e
  simp at this
  rcases this with h1 | h1
  · exact h0 h1
  · rw [h1] at h
    simp at h

set_option maxRecDepth 100000 in
set_option maxHeartbeats 8000000 in
theorem rrow_any (v : Value) (l : List Sm) (w : World) (h : SmpAt w v l) (hl : l.length ≤ 1000) :
    Calls Tryd.prog 13 #[v] w fun e w' => ∃ v', e = .returned v' ∧ w'.ownsRow w.heap.size 5 1 v' (wb 16 l.length ++ encB l).length (byteVals (bitsU (wb 16 l.length ++ encB l))) ∧ Below w.heap.size w w' := by
  obtain ⟨a, c, rfl, -, -, -⟩ := id h
  have HS : Hid (SmpAt w (.slice a l.length c) l) := h
  have hp0 := rput_any w.heap.size w.heap.size [] l.length 16 (w.alloc (.cells #[.slice none 0 0] 70)) ⟨Nat.le_refl _, by simp, none, 0, heap_alloc_new w _, rfl, Or.inl ⟨rfl, rfl⟩⟩ (by decide) (by omega) (by simp)
  have HB0 : Hid (Below w.heap.size w (w.alloc (.cells #[.slice none 0 0] 70))) := (Below.refl _ _).alloc (Nat.le_refl _) _
  have HP : Hid (∀ W cs (x n : Nat) (X N : Int), Bt W w.heap.size w.heap.size cs → X = (x : Int) → N = (n : Int) → n ≤ 64 → x < 18446744073709551616 → cs.length ≤ 9000000 → Calls Tryd.prog 31 #[.pointer (some ⟨w.heap.size, 0, none⟩), .int .u64 X, .int .i64 N] W fun e w' => e = .returned (.tuple #[]) ∧ Bt w' w.heap.size w.heap.size (cs ++ wb n x) ∧ Below w.heap.size W w') := fun W cs x n X N h1 h2 h3 h4 h5 h6 => by
    subst h2 h3
    exact rput_any _ _ cs x n W h1 h4 h5 (by omega)
  clear h
  go_enter Tryd.func13, Tryd.ntmps13
  go_wp2_with (go_at_call 31; refine hp0.mono ?_; clear hp0; rintro e w1 ⟨rfl, hw1, hb1⟩; have HW1 : Hid (Bt w1 w.heap.size w.heap.size ([] ++ wb 16 l.length)) := hw1; have HB1 : Hid (Below w.heap.size w w1) := HB0.out.trans hb1; clear hw1 hb1 HB0)
  go_loopw [4, 5, 6, 7] (fun dv lv tv i wr => ∃ (k : Nat) (L T : Int), k ≤ l.length ∧ i = .int .i64 k ∧ dv = .int .i64 (sg (UInt64.ofNat (encS (l.take k)).d)) ∧ lv = .int .i64 L ∧ tv = .int .i64 T ∧ Hid (Win (encS (l.take k)) L T ∧ Bt wr w.heap.size w.heap.size (wb 16 l.length ++ encB (l.take k)) ∧ Below w.heap.size w wr)) (fun _ _ _ i _ => l.length - (intOf i).toNat)
  case atStart => exact ⟨0, -1, -1, Nat.zero_le _, rfl, rfl, rfl, rfl, Or.inl ⟨rfl, rfl, rfl, rfl⟩, by simpa [encB] using HW1.out, HB1.out⟩
  case round =>
    obtain ⟨k, L, T, hk, rfl, rfl, rfl, rfl, hI⟩ := hrel
    clear HW1 HB1
    by_cases hlt : k < l.length
    · obtain ⟨hwin, hbt, hbl⟩ := hI.out
      have hlen : (wb 16 l.length ++ encB (l.take k)).length ≤ 200000 := by
        have := encB_length (l.take k)
        rw [List.length_append, wb_length]
        simp at this
        omega
      obtain ⟨b, o, rfl, hone⟩ := HS.out.one k hlt
      obtain ⟨g0, g1⟩ := hone wr hbl
      have hone2 : k ≠ 0 → wr.cell? ⟨b, o + (k - 1) * 2, none⟩ = some (.int .i64 (sg (l[k - 1]'(by omega)).1)) ∧ wr.cell? ⟨b, o + (k - 1) * 2 + 1, none⟩ = some (.float .f64 (l[k - 1]'(by omega)).2.toNat) := fun h0 => by
        obtain ⟨b', o', e', h9⟩ := HS.out.one (k - 1) (by omega)
        cases e'
        exact h9 wr hbl
      have hkl : (k : Int) < (l.length : Int) := by omega
      have hfb := fun W => floatbits_run l[k].2.toNat W
      have hx2 := l[k].2.toNat_lt
      have hx1 := l[k].1.toNat_lt
      have hsw := sg_wrap l[k].1
      have hsi := sg_in l[k].1
      by_cases h0 : k = 0
      · subst h0
        have HE : Hid (encB (l.take 1) = encB (l.take 0) ++ (wb 64 l[0].1.toNat ++ wb 64 l[0].2.toNat)) := by
          show _ = _
          rw [List.take_succ_eq_append_getElem hlt]
          exact encB_one _ _ rfl
        have HS1 : Hid ((encS (l.take 1)).d = 0 ∧ (encS (l.take 0)).d = 0 ∧ Win (encS (l.take 1)) L T) := by
          have e9 : encS (l.take 1) = s1 l[0] := by
            rw [List.take_succ_eq_append_getElem hlt]
            rfl
          refine ⟨by rw [e9]; rfl, rfl, ?_⟩
          rcases hwin with ⟨_, _, h3, h4⟩ | ⟨h3, _⟩
          · rw [e9]
            exact Or.inl ⟨rfl, rfl, h3, h4⟩
          · exact absurd h3 (Nat.lt_irrefl 0)
        have HBT : Hid (Bt wr w.heap.size w.heap.size (wb 16 l.length ++ encB (l.take 0))) := hbt
        have HBL : Hid (Below w.heap.size w wr) := hbl
        clear hone hone2 hI hwin hbt hbl HS
        rw [HS1.out.2.1]
        have HLEN : Hid ((wb 16 l.length ++ encB (l.take 0)).length ≤ 200000) := hlen
        have HCAT : Hid (wb 16 l.length ++ encB (l.take 1) = wb 16 l.length ++ encB (l.take 0) ++ wb 64 l[0].1.toNat ++ wb 64 l[0].2.toNat) := by
          show _ = _
          rw [HE.out]
          simp only [List.append_assoc]
        rw [Nat.zero_mul, Nat.add_zero] at g0 g1
        clear HE hlen
        generalize wb 16 l.length ++ encB (l.take 0) = cs at *
        generalize l[0].1.toNat = X1 at *
        generalize l[0].2.toNat = X2 at *
        generalize sg l[0].1 = A at *
        go_wp2_with (first
          | (go_at_call 31; refine (HP.out _ cs X1 64 _ _ HBT.out (by first | rfl | exact hsw) rfl (by decide) hx1 (by have := HLEN.out; omega)).mono ?_; clear HBT; rintro e w2 ⟨rfl, hw2, hb2⟩; have HBT2 : Hid (Bt w2 w.heap.size w.heap.size (cs ++ wb 64 X1)) := hw2; have HBL2 : Hid (Below w.heap.size w w2) := HBL.out.trans hb2; clear hw2 hb2)
          | (go_at_call 31; refine (HP.out _ (cs ++ wb 64 X1) X2 64 _ _ HBT2.out rfl rfl (by decide) hx2 (by have := HLEN.out; rw [List.length_append, wb_length]; omega)).mono ?_; clear HBT2; rintro e w3 ⟨rfl, hw3, hb3⟩; have HBT3 : Hid (Bt w3 w.heap.size w.heap.size (cs ++ wb 64 X1 ++ wb 64 X2)) := hw3; have HBL3 : Hid (Below w.heap.size w w3) := HBL2.out.trans hb3; clear hw3 hb3))
        go_roundw
        case rel => exact ⟨1, L, T, by omega, by go_num, by rw [HS1.out.1]; rfl, rfl, rfl, HS1.out.2.2, by rw [HCAT.out]; exact HBT3.out, HBL3.out⟩
        case measure => simp [intOf]; omega
      · obtain ⟨y, hy⟩ : ∃ y, y = l[k - 1]'(by omega) := ⟨_, rfl⟩
        obtain ⟨z, hz⟩ : ∃ z, z = l[k] := ⟨_, rfl⟩
        obtain ⟨f0, f1⟩ := hone2 h0
        rw [← hy] at f0 f1
        have HONE : Hid (∀ W, Below w.heap.size w W → W.cell? ⟨b, o + (k - 1) * 2 + 1, none⟩ = some (.float .f64 y.2.toNat)) := fun W hW => by
          obtain ⟨b', o', e', h9⟩ := HS.out.one (k - 1) (by omega)
          cases e'
          rw [hy]
          exact (h9 W hW).2
        rw [← hz] at g0 g1 hfb hx1 hx2 hsw hsi
        obtain ⟨s, hs⟩ : ∃ s, s = encS (l.take k) := ⟨_, rfl⟩
        have hst := encS_take l (k - 1) (by omega)
        rw [show k - 1 + 1 = k by omega, ← hs, ← hy] at hst
        obtain ⟨hst, hsv⟩ := hst
        have hG : Good s := by rw [hs]; exact Good.enc _
        have HNS : Hid (encS (l.take (k + 1)) = stS s z) := by
          show _ = _
          rw [List.take_succ_eq_append_getElem hlt, encS_snoc _ _ (take_nil hlt h0), ← hs, ← hz]
        have HNB : Hid (wb 16 l.length ++ encB (l.take (k + 1)) = wb 16 l.length ++ encB (l.take k) ++ (timeB (chg s z.1.toNat) ++ valueB s.lead s.size (z.2.toNat ^^^ s.v))) := by
          show _ = _
          rw [List.take_succ_eq_append_getElem hlt, encB_snoc _ _ (take_nil hlt h0), ← hs, ← hz, List.append_assoc]
          rfl
        rw [← hs] at hwin
        rw [← hs]
        have hd1 : dlt s z.1.toNat < 18446744073709551616 := Nat.mod_lt _ (by decide)
        have hc1 : chg s z.1.toNat < 18446744073709551616 := Nat.mod_lt _ (by decide)
        have hsd := hG.d
        have hstep : IntKind.i64.wrap (sg z.1 - sg y.1) = sg (UInt64.ofNat (dlt s z.1.toNat)) := wrap_sub_sg _ _ _ (by rw [ofNat_back hd1, ← hst]; rfl)
        have hchg : IntKind.i64.wrap (sg (UInt64.ofNat (dlt s z.1.toNat)) - sg (UInt64.ofNat s.d)) = sg (UInt64.ofNat (chg s z.1.toNat)) := wrap_sub_sg _ _ _ (by rw [ofNat_back hc1, ofNat_back hd1, ofNat_back hsd]; rfl)
        have hchg2 : wrap64 (sg (UInt64.ofNat (dlt s z.1.toNat)) - sg (UInt64.ofNat s.d)) = sg (UInt64.ofNat (chg s z.1.toNat)) := by rw [← IntWalk.i64_left]; exact hchg
        have hc2 : ((chg s z.1.toNat : Nat) : Int) = sg (UInt64.ofNat (chg s z.1.toNat)) % 18446744073709551616 := by rw [← sg_mod, ofNat_back hc1]
        have hci := sg_in (UInt64.ofNat (chg s z.1.toNat))
        have hdi := sg_in (UInt64.ofNat (dlt s z.1.toNat))
        have hsdi := sg_in (UInt64.ofNat s.d)
        have HLEN0 : Hid ((wb 16 l.length ++ encB (l.take k)).length ≤ 200000) := hlen
        have HD : Hid (∀ W, Bt W w.heap.size w.heap.size (wb 16 l.length ++ encB (l.take k)) → Calls Tryd.prog 33 #[.pointer (some ⟨w.heap.size, 0, none⟩), .int .i64 (sg (UInt64.ofNat (chg s z.1.toNat)))] W fun e w' => e = .returned (.tuple #[]) ∧ Bt w' w.heap.size w.heap.size (wb 16 l.length ++ encB (l.take k) ++ timeB (chg s z.1.toNat)) ∧ Below w.heap.size W w') := fun W hW => rdod_any _ _ _ _ _ W hW hci hc2 (by omega)
        have HLEN : Hid ((wb 16 l.length ++ encB (l.take k) ++ timeB (chg s z.1.toNat)).length ≤ 300000) := by
          have h1 := HLEN0.out
          have h2 := timeB_len (chg s z.1.toNat)
          show _ ≤ _
          rw [List.length_append]
          omega
        have hsv1 := hG.v
        have ex : bits .xor .u64 (z.2.toNat : Int) (y.2.toNat : Int) = ((z.2.toNat ^^^ s.v : Nat) : Int) := by
          rw [← hsv]
          exact u64_xor_nat _ _ hx2 hsv1
        have hxl : z.2.toNat ^^^ s.v < 18446744073709551616 := xor_lt hx2 hsv1
        have hfb2 := fun W => floatbits_run y.2.toNat W
        have HNW : Hid ((stS s z).d = dlt s z.1.toNat ∧ (stS s z).lead = winL s.lead s.size (z.2.toNat ^^^ s.v) ∧ (stS s z).size = winS s.lead s.size (z.2.toNat ^^^ s.v)) := ⟨rfl, rfl, rfl⟩
        have HWIN : Hid (Win s L T) := hwin
        have HBT0 : Hid (Bt wr w.heap.size w.heap.size (wb 16 l.length ++ encB (l.take k))) := hbt
        have HBL0 : Hid (Below w.heap.size w wr) := hbl
        have hsl := hG.lead
        have hsw2 := hG.win
        have hk1 : (k : Int) - 1 = ((k - 1 : Nat) : Int) := by omega
        have hk1l : ((k - 1 : Nat) : Int) < (l.length : Int) := by omega
        have hk0 : ((k : Int) == 0) = false := by simpa using h0
        have hyi := sg_in y.1
        clear hone hone2 hI hwin hbt hbl HS hs hz hy hst hsv hG hlen HLEN0 hd1 hc1 hsd hc2 hsv1 hx1 hsw
        generalize sg (UInt64.ofNat (chg s z.1.toNat)) = C at *
        obtain ⟨D, hD⟩ : ∃ D, D = sg (UInt64.ofNat (dlt s z.1.toNat)) := ⟨_, rfl⟩
        rw [← hD] at hstep hchg hchg2 hdi
        have HDD : Hid (D = sg (UInt64.ofNat (dlt s z.1.toNat))) := hD
        obtain ⟨x, hx⟩ : ∃ x, x = z.2.toNat ^^^ s.v := ⟨_, rfl⟩
        rw [← hx] at ex hxl HNB HNW
        obtain ⟨tb, htb⟩ : ∃ tb, tb = timeB (chg s z.1.toNat) := ⟨_, rfl⟩
        rw [← htb] at HNB HD HLEN
        obtain ⟨sl, hsl2⟩ : ∃ sl, sl = s.lead := ⟨_, rfl⟩
        obtain ⟨sz, hsz2⟩ : ∃ sz, sz = s.size := ⟨_, rfl⟩
        rw [← hsl2, ← hsz2] at HNB HNW
        rw [← hsl2] at hsl
        rw [← hsl2, ← hsz2] at hsw2
        have HWIN2 : Hid ((sz = 0 ∧ sl = 0 ∧ L = -1 ∧ T = -1) ∨ (0 < sz ∧ L = (sl : Int) ∧ T = ((64 - sl - sz : Nat) : Int))) := by
          rw [hsl2, hsz2]
          exact HWIN.out
        clear hD hx htb hsl2 hsz2 HWIN
        generalize sg (UInt64.ofNat s.d) = E at *
        generalize wb 16 l.length ++ encB (l.take k) = cs at *
        generalize z.2.toNat = Z2 at *
        generalize y.2.toNat = Y2 at *
        by_cases hx0 : x = 0
        · have hxi : ((x : Int) == 0) = true := by simp; omega
          have HWF : Hid (winL sl sz x = sl ∧ winS sl sz x = sz ∧ valueB sl sz x = wb 1 0) := by
            refine ⟨?_, ?_, ?_⟩
            · unfold winL; rw [if_pos hx0]
            · unfold winS; rw [if_pos hx0]
            · unfold valueB; rw [if_pos hx0]
          clear hx0
          go_wp2
          go_quiet (fail)
          have HBT : Hid (Bt (wr.drewN nq) w.heap.size w.heap.size cs) := HBT0.out
          have HBL : Hid (Below w.heap.size w (wr.drewN nq)) := below_drewN HBL0.out nq
          clear HBT0 HBL0
          go_wp2_with (first
            | (go_at_call 33; refine (HD.out _ HBT.out).mono ?_; clear HD HBT; rintro e w2 ⟨rfl, hw2, hb2⟩; have HBT2 : Hid (Bt w2 w.heap.size w.heap.size (cs ++ tb)) := hw2; have HBL2 : Hid (Below w.heap.size w w2) := HBL.out.trans hb2; have f3 := HONE.out w2 HBL2.out; clear hw2 hb2 HONE)
            | (go_at_call 31; refine (HP.out _ (cs ++ tb) (0) (1) _ _ HBT2.out rfl rfl (by decide) (by decide) (by have := HLEN.out; simp only [List.length_append] at this ⊢; omega)).mono ?_; clear HBT2; rintro e w3 ⟨rfl, hw3, hb3⟩; have HBT3 : Hid (Bt w3 w.heap.size w.heap.size (cs ++ tb ++ wb (1) (0))) := hw3; have HBL3 : Hid (Below w.heap.size w w3) := HBL2.out.trans hb3; clear hw3 hb3))
          go_roundw
          case rel =>
            refine ⟨k + 1, L, T, by omega, by go_num, by rw [HNS.out, HNW.out.1, ← HDD.out], rfl, rfl, ?_, ?_, HBL3.out⟩
            · rw [HNS.out]
              unfold Win
              rw [HNW.out.2.1, HNW.out.2.2, HWF.out.1, HWF.out.2.1]
              exact HWIN2.out
            · rw [HNB.out, HWF.out.2.2, ← List.append_assoc]
              exact HBT3.out
          case measure => simp [intOf]; omega
        · have hxi : ((x : Int) == 0) = false := by simp; omega
          obtain ⟨p0, hp0⟩ : ∃ p0, p0 = 64 - Lib.bitLen x := ⟨_, rfl⟩
          obtain ⟨q, hq⟩ : ∃ q, q = tz x := ⟨_, rfl⟩
          obtain ⟨M, hM⟩ : ∃ M, M = lz x := ⟨_, rfl⟩
          have HZ : Hid (∀ W, Calls Tryd.prog 34 #[.int .u64 x] W fun e w' => e = .returned (.tuple #[.int .i64 (p0 : Int), .int .i64 (q : Int)]) ∧ w' = W) := fun W => by
            rw [hp0, hq]
            exact zeros_any x W hx0 hxl
          have hMq := lztz hx0 hxl
          have hM31 := lz_le x
          have hPM : (31 < p0 ∧ M = 31) ∨ (p0 ≤ 31 ∧ M = p0) := by
            rw [hM, hp0]
            unfold lz
            omega
          have hshr : ∀ t, (x : Int) / 2 ^ t = ((x >>> t : Nat) : Int) := fun t => by
            rw [Nat.shiftRight_eq_div_pow]
            simp
          have hshrl : ∀ t, x >>> t < 18446744073709551616 := fun t => by
            rw [Nat.shiftRight_eq_div_pow]
            exact Nat.lt_of_le_of_lt (Nat.div_le_self _ _) hxl
          rw [← hM, ← hq] at hMq
          rw [← hM] at hM31
          by_cases hh : held sl sz x
          · have hz := held_size hx0 hxl hh hsw2
            obtain ⟨tl, htl⟩ : ∃ tl, tl = 64 - sl - sz := ⟨_, rfl⟩
            have HWF : Hid (winL sl sz x = sl ∧ winS sl sz x = sz ∧ valueB sl sz x = wb 2 2 ++ wb sz (x >>> tl)) := by
              refine ⟨?_, ?_, ?_⟩
              · unfold winL; rw [if_neg hx0, if_pos hh]
              · unfold winS; rw [if_neg hx0, if_pos hh]
              · unfold valueB; rw [if_neg hx0, if_pos hh, htl]
            unfold held at hh
            rw [← hM, ← hq, ← htl] at hh
            obtain ⟨hh1, hh2⟩ := hh
            have hLT : L = (sl : Int) ∧ T = (tl : Int) := by
              rcases HWIN2.out with ⟨h1, _⟩ | ⟨_, h2, h3⟩
              · omega
              · rw [htl]; exact ⟨h2, h3⟩
            obtain ⟨rfl, rfl⟩ := hLT
            have HSH : Hid ((x : Int) / 2 ^ tl = ((x >>> tl : Nat) : Int)) := hshr tl
            have HSHL : Hid (x >>> tl < 18446744073709551616) := hshrl tl
            have HTL : Hid (tl = 64 - sl - sz) := htl
            have c1 : (0 : Int) ≤ (sl : Int) := by omega
            have c3 : (tl : Int) ≤ (q : Int) := by omega
            have c4 : (tl : Int) < 64 := by omega
            clear hshr hshrl hp0 hq hx0 hxl htl
            clear hM
            rcases hPM with ⟨d1, rfl⟩ | ⟨d1, rfl⟩
            · skip
              have d3 : (31 : Int) < (p0 : Int) := by omega
              have c2 : (sl : Int) ≤ 31 := by omega
              go_wp2
              go_quiet (fail)
              have HBT : Hid (Bt (wr.drewN nq) w.heap.size w.heap.size cs) := HBT0.out
              have HBL : Hid (Below w.heap.size w (wr.drewN nq)) := below_drewN HBL0.out nq
              clear HBT0 HBL0
              go_wp2_with (first
                | (go_at_call 33; refine (HD.out _ HBT.out).mono ?_; clear HD HBT; rintro e w2 ⟨rfl, hw2, hb2⟩; have HBT2 : Hid (Bt w2 w.heap.size w.heap.size (cs ++ tb)) := hw2; have HBL2 : Hid (Below w.heap.size w w2) := HBL.out.trans hb2; have f3 := HONE.out w2 HBL2.out; clear hw2 hb2 HONE)
                | (go_at_call 31; refine (HP.out _ (cs ++ tb) (1) (1) _ _ HBT2.out rfl rfl (by decide) (by decide) (by have := HLEN.out; simp only [List.length_append] at this ⊢; omega)).mono ?_; clear HBT2; rintro e w3 ⟨rfl, hw3, hb3⟩; have HBT3 : Hid (Bt w3 w.heap.size w.heap.size (cs ++ tb ++ wb (1) (1))) := hw3; have HBL3 : Hid (Below w.heap.size w w3) := HBL2.out.trans hb3; clear hw3 hb3)
                | (go_at_call 34; refine (HZ.out _).mono ?_; clear HZ; rintro e wz ⟨rfl, hwz⟩; have hwz := hwz.symm; subst hwz)
                | (go_at_call 31; refine (HP.out _ (cs ++ tb ++ wb 1 1) (0) (1) _ _ HBT3.out rfl rfl (by decide) (by decide) (by have := HLEN.out; simp only [List.length_append, wb_length] at this ⊢; omega)).mono ?_; clear HBT3; rintro e w4 ⟨rfl, hw4, hb4⟩; have HBT4 : Hid (Bt w4 w.heap.size w.heap.size (cs ++ tb ++ wb 1 1 ++ wb (1) (0))) := hw4; have HBL4 : Hid (Below w.heap.size w w4) := HBL3.out.trans hb4; clear hw4 hb4)
                | (go_at_call 31; refine (HP.out _ (cs ++ tb ++ wb 1 1 ++ wb 1 0) (x >>> tl) (sz) _ _ HBT4.out (by first | rfl | exact HSH.out) (by have := HTL.out; omega) (by omega) HSHL.out (by have := HLEN.out; simp only [List.length_append, wb_length] at this ⊢; omega)).mono ?_; clear HBT4; rintro e w5 ⟨rfl, hw5, hb5⟩; have HBT5 : Hid (Bt w5 w.heap.size w.heap.size (cs ++ tb ++ wb 1 1 ++ wb 1 0 ++ wb (sz) (x >>> tl))) := hw5; have HBL5 : Hid (Below w.heap.size w w5) := HBL4.out.trans hb5; clear hw5 hb5))
              go_roundw
              case rel =>
                refine ⟨k + 1, _, _, by omega, by go_num, by rw [HNS.out, HNW.out.1, ← HDD.out], rfl, rfl, ?_, ?_, HBL5.out⟩
                · rw [HNS.out]
                  unfold Win
                  rw [HNW.out.2.1, HNW.out.2.2, HWF.out.1, HWF.out.2.1]
                  exact Or.inr ⟨by omega, rfl, congrArg _ HTL.out⟩
                · rw [HNB.out, HWF.out.2.2, show wb 2 2 = wb 1 1 ++ wb 1 0 from rfl]
                  simpa only [List.append_assoc] using HBT5.out
              case measure => simp [intOf]; omega
            · skip
              have d3 : (M : Int) ≤ 31 := by omega
              have c2 : (sl : Int) ≤ (M : Int) := by omega
              go_wp2
              go_quiet (fail)
              have HBT : Hid (Bt (wr.drewN nq) w.heap.size w.heap.size cs) := HBT0.out
              have HBL : Hid (Below w.heap.size w (wr.drewN nq)) := below_drewN HBL0.out nq
              clear HBT0 HBL0
              go_wp2_with (first
                | (go_at_call 33; refine (HD.out _ HBT.out).mono ?_; clear HD HBT; rintro e w2 ⟨rfl, hw2, hb2⟩; have HBT2 : Hid (Bt w2 w.heap.size w.heap.size (cs ++ tb)) := hw2; have HBL2 : Hid (Below w.heap.size w w2) := HBL.out.trans hb2; have f3 := HONE.out w2 HBL2.out; clear hw2 hb2 HONE)
                | (go_at_call 31; refine (HP.out _ (cs ++ tb) (1) (1) _ _ HBT2.out rfl rfl (by decide) (by decide) (by have := HLEN.out; simp only [List.length_append] at this ⊢; omega)).mono ?_; clear HBT2; rintro e w3 ⟨rfl, hw3, hb3⟩; have HBT3 : Hid (Bt w3 w.heap.size w.heap.size (cs ++ tb ++ wb (1) (1))) := hw3; have HBL3 : Hid (Below w.heap.size w w3) := HBL2.out.trans hb3; clear hw3 hb3)
                | (go_at_call 34; refine (HZ.out _).mono ?_; clear HZ; rintro e wz ⟨rfl, hwz⟩; have hwz := hwz.symm; subst hwz)
                | (go_at_call 31; refine (HP.out _ (cs ++ tb ++ wb 1 1) (0) (1) _ _ HBT3.out rfl rfl (by decide) (by decide) (by have := HLEN.out; simp only [List.length_append, wb_length] at this ⊢; omega)).mono ?_; clear HBT3; rintro e w4 ⟨rfl, hw4, hb4⟩; have HBT4 : Hid (Bt w4 w.heap.size w.heap.size (cs ++ tb ++ wb 1 1 ++ wb (1) (0))) := hw4; have HBL4 : Hid (Below w.heap.size w w4) := HBL3.out.trans hb4; clear hw4 hb4)
                | (go_at_call 31; refine (HP.out _ (cs ++ tb ++ wb 1 1 ++ wb 1 0) (x >>> tl) (sz) _ _ HBT4.out (by first | rfl | exact HSH.out) (by have := HTL.out; omega) (by omega) HSHL.out (by have := HLEN.out; simp only [List.length_append, wb_length] at this ⊢; omega)).mono ?_; clear HBT4; rintro e w5 ⟨rfl, hw5, hb5⟩; have HBT5 : Hid (Bt w5 w.heap.size w.heap.size (cs ++ tb ++ wb 1 1 ++ wb 1 0 ++ wb (sz) (x >>> tl))) := hw5; have HBL5 : Hid (Below w.heap.size w w5) := HBL4.out.trans hb5; clear hw5 hb5))
              go_roundw
              case rel =>
                refine ⟨k + 1, _, _, by omega, by go_num, by rw [HNS.out, HNW.out.1, ← HDD.out], rfl, rfl, ?_, ?_, HBL5.out⟩
                · rw [HNS.out]
                  unfold Win
                  rw [HNW.out.2.1, HNW.out.2.2, HWF.out.1, HWF.out.2.1]
                  exact Or.inr ⟨by omega, rfl, congrArg _ HTL.out⟩
                · rw [HNB.out, HWF.out.2.2, show wb 2 2 = wb 1 1 ++ wb 1 0 from rfl]
                  simpa only [List.append_assoc] using HBT5.out
              case measure => simp [intOf]; omega
          · have HWF : Hid (winL sl sz x = M ∧ winS sl sz x = 64 - M - q ∧ valueB sl sz x = wb 2 3 ++ wb 5 M ++ wb 6 (63 - M - q) ++ wb (64 - M - q) (x >>> q)) := by
              rw [hM, hq]
              refine ⟨?_, ?_, ?_⟩
              · unfold winL; rw [if_neg hx0, if_neg hh]
              · unfold winS; rw [if_neg hx0, if_neg hh]
              · unfold valueB; rw [if_neg hx0, if_neg hh]
            unfold held at hh
            rw [← hM, ← hq] at hh
            have hW3 : (L = -1 ∧ T = -1) ∨ ∃ tl : Nat, L = (sl : Int) ∧ T = (tl : Int) ∧ (M < sl ∨ (sl ≤ M ∧ q < tl)) := by
              rcases HWIN2.out with ⟨_, _, h3, h4⟩ | ⟨h1, h2, h3⟩
              · exact Or.inl ⟨h3, h4⟩
              · exact Or.inr ⟨64 - sl - sz, h2, h3, by omega⟩
            have HSH : Hid ((x : Int) / 2 ^ q = ((x >>> q : Nat) : Int)) := hshr q
            have HSHL : Hid (x >>> q < 18446744073709551616) := hshrl q
            have hq64 : (q : Int) < 64 := by omega
            clear hshr hshrl hp0 hq hx0 hxl HWIN2 hh hM
            rcases hPM with ⟨d1, rfl⟩ | ⟨d1, rfl⟩
            · rcases hW3 with ⟨rfl, rfl⟩ | ⟨tl, rfl, rfl, hlt3⟩
              · skip
                have d3 : (31 : Int) < (p0 : Int) := by omega
                go_wp2
                go_quiet (fail)
                have HBT : Hid (Bt (wr.drewN nq) w.heap.size w.heap.size cs) := HBT0.out
                have HBL : Hid (Below w.heap.size w (wr.drewN nq)) := below_drewN HBL0.out nq
                clear HBT0 HBL0
                go_wp2_with (first
                  | (go_at_call 33; refine (HD.out _ HBT.out).mono ?_; clear HD HBT; rintro e w2 ⟨rfl, hw2, hb2⟩; have HBT2 : Hid (Bt w2 w.heap.size w.heap.size (cs ++ tb)) := hw2; have HBL2 : Hid (Below w.heap.size w w2) := HBL.out.trans hb2; have f3 := HONE.out w2 HBL2.out; clear hw2 hb2 HONE)
                  | (go_at_call 31; refine (HP.out _ (cs ++ tb) (1) (1) _ _ HBT2.out rfl rfl (by decide) (by decide) (by have := HLEN.out; simp only [List.length_append] at this ⊢; omega)).mono ?_; clear HBT2; rintro e w3 ⟨rfl, hw3, hb3⟩; have HBT3 : Hid (Bt w3 w.heap.size w.heap.size (cs ++ tb ++ wb (1) (1))) := hw3; have HBL3 : Hid (Below w.heap.size w w3) := HBL2.out.trans hb3; clear hw3 hb3)
                  | (go_at_call 34; refine (HZ.out _).mono ?_; clear HZ; rintro e wz ⟨rfl, hwz⟩; have hwz := hwz.symm; subst hwz)
                  | (go_at_call 31; refine (HP.out _ (cs ++ tb ++ wb 1 1) (1) (1) _ _ HBT3.out rfl rfl (by decide) (by decide) (by have := HLEN.out; simp only [List.length_append, wb_length] at this ⊢; omega)).mono ?_; clear HBT3; rintro e w4 ⟨rfl, hw4, hb4⟩; have HBT4 : Hid (Bt w4 w.heap.size w.heap.size (cs ++ tb ++ wb 1 1 ++ wb (1) (1))) := hw4; have HBL4 : Hid (Below w.heap.size w w4) := HBL3.out.trans hb4; clear hw4 hb4)
                  | (go_at_call 31; refine (HP.out _ (cs ++ tb ++ wb 1 1 ++ wb 1 1) (31) (5) _ _ HBT4.out (by first | rfl | omega) rfl (by decide) (by omega) (by have := HLEN.out; simp only [List.length_append, wb_length] at this ⊢; omega)).mono ?_; clear HBT4; rintro e w5 ⟨rfl, hw5, hb5⟩; have HBT5 : Hid (Bt w5 w.heap.size w.heap.size (cs ++ tb ++ wb 1 1 ++ wb 1 1 ++ wb (5) (31))) := hw5; have HBL5 : Hid (Below w.heap.size w w5) := HBL4.out.trans hb5; clear hw5 hb5)
                  | (go_at_call 31; refine (HP.out _ (cs ++ tb ++ wb 1 1 ++ wb 1 1 ++ wb 5 31) (63 - 31 - q) (6) _ _ HBT5.out (by omega) rfl (by decide) (by omega) (by have := HLEN.out; simp only [List.length_append, wb_length] at this ⊢; omega)).mono ?_; clear HBT5; rintro e w6 ⟨rfl, hw6, hb6⟩; have HBT6 : Hid (Bt w6 w.heap.size w.heap.size (cs ++ tb ++ wb 1 1 ++ wb 1 1 ++ wb 5 31 ++ wb (6) (63 - 31 - q))) := hw6; have HBL6 : Hid (Below w.heap.size w w6) := HBL5.out.trans hb6; clear hw6 hb6)
                  | (go_at_call 31; refine (HP.out _ (cs ++ tb ++ wb 1 1 ++ wb 1 1 ++ wb 5 31 ++ wb 6 (63 - 31 - q)) (x >>> q) (64 - 31 - q) _ _ HBT6.out (by first | rfl | exact HSH.out) (by omega) (by omega) HSHL.out (by have := HLEN.out; simp only [List.length_append, wb_length] at this ⊢; omega)).mono ?_; clear HBT6; rintro e w7 ⟨rfl, hw7, hb7⟩; have HBT7 : Hid (Bt w7 w.heap.size w.heap.size (cs ++ tb ++ wb 1 1 ++ wb 1 1 ++ wb 5 31 ++ wb 6 (63 - 31 - q) ++ wb (64 - 31 - q) (x >>> q))) := hw7; have HBL7 : Hid (Below w.heap.size w w7) := HBL6.out.trans hb7; clear hw7 hb7))
                go_roundw
                case rel =>
                  refine ⟨k + 1, _, _, by omega, by go_num, by rw [HNS.out, HNW.out.1, ← HDD.out], rfl, rfl, ?_, ?_, HBL7.out⟩
                  · rw [HNS.out]
                    unfold Win
                    rw [HNW.out.2.1, HNW.out.2.2, HWF.out.1, HWF.out.2.1]
                    exact Or.inr ⟨by omega, rfl, by rw [show 64 - 31 - (64 - 31 - q) = q by omega]⟩
                  · rw [HNB.out, HWF.out.2.2, show wb 2 3 = wb 1 1 ++ wb 1 1 from rfl]
                    simpa only [List.append_assoc] using HBT7.out
                case measure => simp [intOf]; omega
              · rcases hlt3 with hlt3 | ⟨hlt3, hlt4⟩
                · exact absurd hlt3 (by omega)
                · skip
                  have d3 : (31 : Int) < (p0 : Int) := by omega
                  have c1 : (0 : Int) ≤ (sl : Int) := by omega
                  have c2 : (sl : Int) ≤ 31 := by omega
                  have c3 : (q : Int) < (tl : Int) := by omega
                  go_wp2
                  go_quiet (fail)
                  have HBT : Hid (Bt (wr.drewN nq) w.heap.size w.heap.size cs) := HBT0.out
                  have HBL : Hid (Below w.heap.size w (wr.drewN nq)) := below_drewN HBL0.out nq
                  clear HBT0 HBL0
                  go_wp2_with (first
                    | (go_at_call 33; refine (HD.out _ HBT.out).mono ?_; clear HD HBT; rintro e w2 ⟨rfl, hw2, hb2⟩; have HBT2 : Hid (Bt w2 w.heap.size w.heap.size (cs ++ tb)) := hw2; have HBL2 : Hid (Below w.heap.size w w2) := HBL.out.trans hb2; have f3 := HONE.out w2 HBL2.out; clear hw2 hb2 HONE)
                    | (go_at_call 31; refine (HP.out _ (cs ++ tb) (1) (1) _ _ HBT2.out rfl rfl (by decide) (by decide) (by have := HLEN.out; simp only [List.length_append] at this ⊢; omega)).mono ?_; clear HBT2; rintro e w3 ⟨rfl, hw3, hb3⟩; have HBT3 : Hid (Bt w3 w.heap.size w.heap.size (cs ++ tb ++ wb (1) (1))) := hw3; have HBL3 : Hid (Below w.heap.size w w3) := HBL2.out.trans hb3; clear hw3 hb3)
                    | (go_at_call 34; refine (HZ.out _).mono ?_; clear HZ; rintro e wz ⟨rfl, hwz⟩; have hwz := hwz.symm; subst hwz)
                    | (go_at_call 31; refine (HP.out _ (cs ++ tb ++ wb 1 1) (1) (1) _ _ HBT3.out rfl rfl (by decide) (by decide) (by have := HLEN.out; simp only [List.length_append, wb_length] at this ⊢; omega)).mono ?_; clear HBT3; rintro e w4 ⟨rfl, hw4, hb4⟩; have HBT4 : Hid (Bt w4 w.heap.size w.heap.size (cs ++ tb ++ wb 1 1 ++ wb (1) (1))) := hw4; have HBL4 : Hid (Below w.heap.size w w4) := HBL3.out.trans hb4; clear hw4 hb4)
                    | (go_at_call 31; refine (HP.out _ (cs ++ tb ++ wb 1 1 ++ wb 1 1) (31) (5) _ _ HBT4.out (by first | rfl | omega) rfl (by decide) (by omega) (by have := HLEN.out; simp only [List.length_append, wb_length] at this ⊢; omega)).mono ?_; clear HBT4; rintro e w5 ⟨rfl, hw5, hb5⟩; have HBT5 : Hid (Bt w5 w.heap.size w.heap.size (cs ++ tb ++ wb 1 1 ++ wb 1 1 ++ wb (5) (31))) := hw5; have HBL5 : Hid (Below w.heap.size w w5) := HBL4.out.trans hb5; clear hw5 hb5)
                    | (go_at_call 31; refine (HP.out _ (cs ++ tb ++ wb 1 1 ++ wb 1 1 ++ wb 5 31) (63 - 31 - q) (6) _ _ HBT5.out (by omega) rfl (by decide) (by omega) (by have := HLEN.out; simp only [List.length_append, wb_length] at this ⊢; omega)).mono ?_; clear HBT5; rintro e w6 ⟨rfl, hw6, hb6⟩; have HBT6 : Hid (Bt w6 w.heap.size w.heap.size (cs ++ tb ++ wb 1 1 ++ wb 1 1 ++ wb 5 31 ++ wb (6) (63 - 31 - q))) := hw6; have HBL6 : Hid (Below w.heap.size w w6) := HBL5.out.trans hb6; clear hw6 hb6)
                    | (go_at_call 31; refine (HP.out _ (cs ++ tb ++ wb 1 1 ++ wb 1 1 ++ wb 5 31 ++ wb 6 (63 - 31 - q)) (x >>> q) (64 - 31 - q) _ _ HBT6.out (by first | rfl | exact HSH.out) (by omega) (by omega) HSHL.out (by have := HLEN.out; simp only [List.length_append, wb_length] at this ⊢; omega)).mono ?_; clear HBT6; rintro e w7 ⟨rfl, hw7, hb7⟩; have HBT7 : Hid (Bt w7 w.heap.size w.heap.size (cs ++ tb ++ wb 1 1 ++ wb 1 1 ++ wb 5 31 ++ wb 6 (63 - 31 - q) ++ wb (64 - 31 - q) (x >>> q))) := hw7; have HBL7 : Hid (Below w.heap.size w w7) := HBL6.out.trans hb7; clear hw7 hb7))
                  go_roundw
                  case rel =>
                    refine ⟨k + 1, _, _, by omega, by go_num, by rw [HNS.out, HNW.out.1, ← HDD.out], rfl, rfl, ?_, ?_, HBL7.out⟩
                    · rw [HNS.out]
                      unfold Win
                      rw [HNW.out.2.1, HNW.out.2.2, HWF.out.1, HWF.out.2.1]
                      exact Or.inr ⟨by omega, rfl, by rw [show 64 - 31 - (64 - 31 - q) = q by omega]⟩
                    · rw [HNB.out, HWF.out.2.2, show wb 2 3 = wb 1 1 ++ wb 1 1 from rfl]
                      simpa only [List.append_assoc] using HBT7.out
                  case measure => simp [intOf]; omega
            · rcases hW3 with ⟨rfl, rfl⟩ | ⟨tl, rfl, rfl, hlt3⟩
              · skip
                have d3 : (M : Int) ≤ 31 := by omega
                go_wp2
                go_quiet (fail)
                have HBT : Hid (Bt (wr.drewN nq) w.heap.size w.heap.size cs) := HBT0.out
                have HBL : Hid (Below w.heap.size w (wr.drewN nq)) := below_drewN HBL0.out nq
                clear HBT0 HBL0
                go_wp2_with (first
                  | (go_at_call 33; refine (HD.out _ HBT.out).mono ?_; clear HD HBT; rintro e w2 ⟨rfl, hw2, hb2⟩; have HBT2 : Hid (Bt w2 w.heap.size w.heap.size (cs ++ tb)) := hw2; have HBL2 : Hid (Below w.heap.size w w2) := HBL.out.trans hb2; have f3 := HONE.out w2 HBL2.out; clear hw2 hb2 HONE)
                  | (go_at_call 31; refine (HP.out _ (cs ++ tb) (1) (1) _ _ HBT2.out rfl rfl (by decide) (by decide) (by have := HLEN.out; simp only [List.length_append] at this ⊢; omega)).mono ?_; clear HBT2; rintro e w3 ⟨rfl, hw3, hb3⟩; have HBT3 : Hid (Bt w3 w.heap.size w.heap.size (cs ++ tb ++ wb (1) (1))) := hw3; have HBL3 : Hid (Below w.heap.size w w3) := HBL2.out.trans hb3; clear hw3 hb3)
                  | (go_at_call 34; refine (HZ.out _).mono ?_; clear HZ; rintro e wz ⟨rfl, hwz⟩; have hwz := hwz.symm; subst hwz)
                  | (go_at_call 31; refine (HP.out _ (cs ++ tb ++ wb 1 1) (1) (1) _ _ HBT3.out rfl rfl (by decide) (by decide) (by have := HLEN.out; simp only [List.length_append, wb_length] at this ⊢; omega)).mono ?_; clear HBT3; rintro e w4 ⟨rfl, hw4, hb4⟩; have HBT4 : Hid (Bt w4 w.heap.size w.heap.size (cs ++ tb ++ wb 1 1 ++ wb (1) (1))) := hw4; have HBL4 : Hid (Below w.heap.size w w4) := HBL3.out.trans hb4; clear hw4 hb4)
                  | (go_at_call 31; refine (HP.out _ (cs ++ tb ++ wb 1 1 ++ wb 1 1) (M) (5) _ _ HBT4.out (by first | rfl | omega) rfl (by decide) (by omega) (by have := HLEN.out; simp only [List.length_append, wb_length] at this ⊢; omega)).mono ?_; clear HBT4; rintro e w5 ⟨rfl, hw5, hb5⟩; have HBT5 : Hid (Bt w5 w.heap.size w.heap.size (cs ++ tb ++ wb 1 1 ++ wb 1 1 ++ wb (5) (M))) := hw5; have HBL5 : Hid (Below w.heap.size w w5) := HBL4.out.trans hb5; clear hw5 hb5)
                  | (go_at_call 31; refine (HP.out _ (cs ++ tb ++ wb 1 1 ++ wb 1 1 ++ wb 5 M) (63 - M - q) (6) _ _ HBT5.out (by omega) rfl (by decide) (by omega) (by have := HLEN.out; simp only [List.length_append, wb_length] at this ⊢; omega)).mono ?_; clear HBT5; rintro e w6 ⟨rfl, hw6, hb6⟩; have HBT6 : Hid (Bt w6 w.heap.size w.heap.size (cs ++ tb ++ wb 1 1 ++ wb 1 1 ++ wb 5 M ++ wb (6) (63 - M - q))) := hw6; have HBL6 : Hid (Below w.heap.size w w6) := HBL5.out.trans hb6; clear hw6 hb6)
                  | (go_at_call 31; refine (HP.out _ (cs ++ tb ++ wb 1 1 ++ wb 1 1 ++ wb 5 M ++ wb 6 (63 - M - q)) (x >>> q) (64 - M - q) _ _ HBT6.out (by first | rfl | exact HSH.out) (by omega) (by omega) HSHL.out (by have := HLEN.out; simp only [List.length_append, wb_length] at this ⊢; omega)).mono ?_; clear HBT6; rintro e w7 ⟨rfl, hw7, hb7⟩; have HBT7 : Hid (Bt w7 w.heap.size w.heap.size (cs ++ tb ++ wb 1 1 ++ wb 1 1 ++ wb 5 M ++ wb 6 (63 - M - q) ++ wb (64 - M - q) (x >>> q))) := hw7; have HBL7 : Hid (Below w.heap.size w w7) := HBL6.out.trans hb7; clear hw7 hb7))
                go_roundw
                case rel =>
                  refine ⟨k + 1, _, _, by omega, by go_num, by rw [HNS.out, HNW.out.1, ← HDD.out], rfl, rfl, ?_, ?_, HBL7.out⟩
                  · rw [HNS.out]
                    unfold Win
                    rw [HNW.out.2.1, HNW.out.2.2, HWF.out.1, HWF.out.2.1]
                    exact Or.inr ⟨by omega, rfl, by rw [show 64 - M - (64 - M - q) = q by omega]⟩
                  · rw [HNB.out, HWF.out.2.2, show wb 2 3 = wb 1 1 ++ wb 1 1 from rfl]
                    simpa only [List.append_assoc] using HBT7.out
                case measure => simp [intOf]; omega
              · rcases hlt3 with hlt3 | ⟨hlt3, hlt4⟩
                · skip
                  have d3 : (M : Int) ≤ 31 := by omega
                  have c1 : (0 : Int) ≤ (sl : Int) := by omega
                  have c2 : (M : Int) < (sl : Int) := by omega
                  go_wp2
                  go_quiet (fail)
                  have HBT : Hid (Bt (wr.drewN nq) w.heap.size w.heap.size cs) := HBT0.out
                  have HBL : Hid (Below w.heap.size w (wr.drewN nq)) := below_drewN HBL0.out nq
                  clear HBT0 HBL0
                  go_wp2_with (first
                    | (go_at_call 33; refine (HD.out _ HBT.out).mono ?_; clear HD HBT; rintro e w2 ⟨rfl, hw2, hb2⟩; have HBT2 : Hid (Bt w2 w.heap.size w.heap.size (cs ++ tb)) := hw2; have HBL2 : Hid (Below w.heap.size w w2) := HBL.out.trans hb2; have f3 := HONE.out w2 HBL2.out; clear hw2 hb2 HONE)
                    | (go_at_call 31; refine (HP.out _ (cs ++ tb) (1) (1) _ _ HBT2.out rfl rfl (by decide) (by decide) (by have := HLEN.out; simp only [List.length_append] at this ⊢; omega)).mono ?_; clear HBT2; rintro e w3 ⟨rfl, hw3, hb3⟩; have HBT3 : Hid (Bt w3 w.heap.size w.heap.size (cs ++ tb ++ wb (1) (1))) := hw3; have HBL3 : Hid (Below w.heap.size w w3) := HBL2.out.trans hb3; clear hw3 hb3)
                    | (go_at_call 34; refine (HZ.out _).mono ?_; clear HZ; rintro e wz ⟨rfl, hwz⟩; have hwz := hwz.symm; subst hwz)
                    | (go_at_call 31; refine (HP.out _ (cs ++ tb ++ wb 1 1) (1) (1) _ _ HBT3.out rfl rfl (by decide) (by decide) (by have := HLEN.out; simp only [List.length_append, wb_length] at this ⊢; omega)).mono ?_; clear HBT3; rintro e w4 ⟨rfl, hw4, hb4⟩; have HBT4 : Hid (Bt w4 w.heap.size w.heap.size (cs ++ tb ++ wb 1 1 ++ wb (1) (1))) := hw4; have HBL4 : Hid (Below w.heap.size w w4) := HBL3.out.trans hb4; clear hw4 hb4)
                    | (go_at_call 31; refine (HP.out _ (cs ++ tb ++ wb 1 1 ++ wb 1 1) (M) (5) _ _ HBT4.out (by first | rfl | omega) rfl (by decide) (by omega) (by have := HLEN.out; simp only [List.length_append, wb_length] at this ⊢; omega)).mono ?_; clear HBT4; rintro e w5 ⟨rfl, hw5, hb5⟩; have HBT5 : Hid (Bt w5 w.heap.size w.heap.size (cs ++ tb ++ wb 1 1 ++ wb 1 1 ++ wb (5) (M))) := hw5; have HBL5 : Hid (Below w.heap.size w w5) := HBL4.out.trans hb5; clear hw5 hb5)
                    | (go_at_call 31; refine (HP.out _ (cs ++ tb ++ wb 1 1 ++ wb 1 1 ++ wb 5 M) (63 - M - q) (6) _ _ HBT5.out (by omega) rfl (by decide) (by omega) (by have := HLEN.out; simp only [List.length_append, wb_length] at this ⊢; omega)).mono ?_; clear HBT5; rintro e w6 ⟨rfl, hw6, hb6⟩; have HBT6 : Hid (Bt w6 w.heap.size w.heap.size (cs ++ tb ++ wb 1 1 ++ wb 1 1 ++ wb 5 M ++ wb (6) (63 - M - q))) := hw6; have HBL6 : Hid (Below w.heap.size w w6) := HBL5.out.trans hb6; clear hw6 hb6)
                    | (go_at_call 31; refine (HP.out _ (cs ++ tb ++ wb 1 1 ++ wb 1 1 ++ wb 5 M ++ wb 6 (63 - M - q)) (x >>> q) (64 - M - q) _ _ HBT6.out (by first | rfl | exact HSH.out) (by omega) (by omega) HSHL.out (by have := HLEN.out; simp only [List.length_append, wb_length] at this ⊢; omega)).mono ?_; clear HBT6; rintro e w7 ⟨rfl, hw7, hb7⟩; have HBT7 : Hid (Bt w7 w.heap.size w.heap.size (cs ++ tb ++ wb 1 1 ++ wb 1 1 ++ wb 5 M ++ wb 6 (63 - M - q) ++ wb (64 - M - q) (x >>> q))) := hw7; have HBL7 : Hid (Below w.heap.size w w7) := HBL6.out.trans hb7; clear hw7 hb7))
                  go_roundw
                  case rel =>
                    refine ⟨k + 1, _, _, by omega, by go_num, by rw [HNS.out, HNW.out.1, ← HDD.out], rfl, rfl, ?_, ?_, HBL7.out⟩
                    · rw [HNS.out]
                      unfold Win
                      rw [HNW.out.2.1, HNW.out.2.2, HWF.out.1, HWF.out.2.1]
                      exact Or.inr ⟨by omega, rfl, by rw [show 64 - M - (64 - M - q) = q by omega]⟩
                    · rw [HNB.out, HWF.out.2.2, show wb 2 3 = wb 1 1 ++ wb 1 1 from rfl]
                      simpa only [List.append_assoc] using HBT7.out
                  case measure => simp [intOf]; omega
                · skip
                  have d3 : (M : Int) ≤ 31 := by omega
                  have c1 : (0 : Int) ≤ (sl : Int) := by omega
                  have c2 : (sl : Int) ≤ (M : Int) := by omega
                  have c3 : (q : Int) < (tl : Int) := by omega
                  go_wp2
                  go_quiet (fail)
                  have HBT : Hid (Bt (wr.drewN nq) w.heap.size w.heap.size cs) := HBT0.out
                  have HBL : Hid (Below w.heap.size w (wr.drewN nq)) := below_drewN HBL0.out nq
                  clear HBT0 HBL0
                  go_wp2_with (first
                    | (go_at_call 33; refine (HD.out _ HBT.out).mono ?_; clear HD HBT; rintro e w2 ⟨rfl, hw2, hb2⟩; have HBT2 : Hid (Bt w2 w.heap.size w.heap.size (cs ++ tb)) := hw2; have HBL2 : Hid (Below w.heap.size w w2) := HBL.out.trans hb2; have f3 := HONE.out w2 HBL2.out; clear hw2 hb2 HONE)
                    | (go_at_call 31; refine (HP.out _ (cs ++ tb) (1) (1) _ _ HBT2.out rfl rfl (by decide) (by decide) (by have := HLEN.out; simp only [List.length_append] at this ⊢; omega)).mono ?_; clear HBT2; rintro e w3 ⟨rfl, hw3, hb3⟩; have HBT3 : Hid (Bt w3 w.heap.size w.heap.size (cs ++ tb ++ wb (1) (1))) := hw3; have HBL3 : Hid (Below w.heap.size w w3) := HBL2.out.trans hb3; clear hw3 hb3)
                    | (go_at_call 34; refine (HZ.out _).mono ?_; clear HZ; rintro e wz ⟨rfl, hwz⟩; have hwz := hwz.symm; subst hwz)
                    | (go_at_call 31; refine (HP.out _ (cs ++ tb ++ wb 1 1) (1) (1) _ _ HBT3.out rfl rfl (by decide) (by decide) (by have := HLEN.out; simp only [List.length_append, wb_length] at this ⊢; omega)).mono ?_; clear HBT3; rintro e w4 ⟨rfl, hw4, hb4⟩; have HBT4 : Hid (Bt w4 w.heap.size w.heap.size (cs ++ tb ++ wb 1 1 ++ wb (1) (1))) := hw4; have HBL4 : Hid (Below w.heap.size w w4) := HBL3.out.trans hb4; clear hw4 hb4)
                    | (go_at_call 31; refine (HP.out _ (cs ++ tb ++ wb 1 1 ++ wb 1 1) (M) (5) _ _ HBT4.out (by first | rfl | omega) rfl (by decide) (by omega) (by have := HLEN.out; simp only [List.length_append, wb_length] at this ⊢; omega)).mono ?_; clear HBT4; rintro e w5 ⟨rfl, hw5, hb5⟩; have HBT5 : Hid (Bt w5 w.heap.size w.heap.size (cs ++ tb ++ wb 1 1 ++ wb 1 1 ++ wb (5) (M))) := hw5; have HBL5 : Hid (Below w.heap.size w w5) := HBL4.out.trans hb5; clear hw5 hb5)
                    | (go_at_call 31; refine (HP.out _ (cs ++ tb ++ wb 1 1 ++ wb 1 1 ++ wb 5 M) (63 - M - q) (6) _ _ HBT5.out (by omega) rfl (by decide) (by omega) (by have := HLEN.out; simp only [List.length_append, wb_length] at this ⊢; omega)).mono ?_; clear HBT5; rintro e w6 ⟨rfl, hw6, hb6⟩; have HBT6 : Hid (Bt w6 w.heap.size w.heap.size (cs ++ tb ++ wb 1 1 ++ wb 1 1 ++ wb 5 M ++ wb (6) (63 - M - q))) := hw6; have HBL6 : Hid (Below w.heap.size w w6) := HBL5.out.trans hb6; clear hw6 hb6)
                    | (go_at_call 31; refine (HP.out _ (cs ++ tb ++ wb 1 1 ++ wb 1 1 ++ wb 5 M ++ wb 6 (63 - M - q)) (x >>> q) (64 - M - q) _ _ HBT6.out (by first | rfl | exact HSH.out) (by omega) (by omega) HSHL.out (by have := HLEN.out; simp only [List.length_append, wb_length] at this ⊢; omega)).mono ?_; clear HBT6; rintro e w7 ⟨rfl, hw7, hb7⟩; have HBT7 : Hid (Bt w7 w.heap.size w.heap.size (cs ++ tb ++ wb 1 1 ++ wb 1 1 ++ wb 5 M ++ wb 6 (63 - M - q) ++ wb (64 - M - q) (x >>> q))) := hw7; have HBL7 : Hid (Below w.heap.size w w7) := HBL6.out.trans hb7; clear hw7 hb7))
                  go_roundw
                  case rel =>
                    refine ⟨k + 1, _, _, by omega, by go_num, by rw [HNS.out, HNW.out.1, ← HDD.out], rfl, rfl, ?_, ?_, HBL7.out⟩
                    · rw [HNS.out]
                      unfold Win
                      rw [HNW.out.2.1, HNW.out.2.2, HWF.out.1, HWF.out.2.1]
                      exact Or.inr ⟨by omega, rfl, by rw [show 64 - M - (64 - M - q) = q by omega]⟩
                    · rw [HNB.out, HWF.out.2.2, show wb 2 3 = wb 1 1 ++ wb 1 1 from rfl]
                      simpa only [List.append_assoc] using HBT7.out
                  case measure => simp [intOf]; omega
    · obtain rfl : k = l.length := by omega
      obtain ⟨-, ⟨-, -, a2, c2, hh, hrow⟩, hbl⟩ := hI.out
      rw [List.take_length] at hh hrow
      have c0 : wr.cell? ⟨w.heap.size, 0, none⟩ = some (.slice a2 (wb 16 l.length ++ encB l).length c2) := by rw [cell_of_heap hh]; rfl
      have HR : Hid (wr.ownsRow w.heap.size 5 1 (.slice a2 (wb 16 l.length ++ encB l).length c2) (wb 16 l.length ++ encB l).length (byteVals (bitsU (wb 16 l.length ++ encB l)))) := hrow
      have HBW : Hid (Below w.heap.size w wr) := hbl
      clear hI hh hrow hbl
      obtain ⟨cs, hcs⟩ : ∃ cs, cs = wb 16 l.length ++ encB l := ⟨_, rfl⟩
      rw [← hcs] at c0 HR
      have HCS : Hid (cs = wb 16 l.length ++ encB l) := hcs
      clear hcs
      go_wp2
      go_ret
      have h9 := HCS.out
      subst h9
      exact ⟨_, rfl, HR.out, HBW.out⟩

end Go.Proofs.YtkmclgbiedbfpaaDoor
