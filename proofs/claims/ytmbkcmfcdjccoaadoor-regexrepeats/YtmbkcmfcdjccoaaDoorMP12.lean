/- The reader of an expression: numbers. -/
import Derived.Test.YtmbkcmfcdjccoaaDoorMP10
namespace Go.Proofs.YtmbkcmfcdjccoaaDoor
open Go.RowKit Go.Maps

theorem digsR_one {s : ByteArray} {j : Nat} (k n : Nat) (h : j < s.size) : digsR s (k + 1) j n = if 48 ≤ s[j].toNat ∧ s[j].toNat ≤ 57 then digsR s k (j + 1) (min (n * 10 + (s[j].toNat - 48)) 101) else (n, j) := by
  rw [digsR, at_some h]
  dsimp only
  rfl
theorem digsR_end {s : ByteArray} {j : Nat} (k n : Nat) (h : s.size ≤ j) : digsR s k j n = (n, j) := by
  cases k with
  | zero => rfl
  | succ k =>
    unfold digsR
    rw [at_none h]
theorem digsR_ok {s : ByteArray} : ∀ (k j n : Nat), j ≤ s.size → n ≤ 101 → j ≤ (digsR s k j n).2 ∧ (digsR s k j n).2 ≤ s.size ∧ (digsR s k j n).1 ≤ 101
  | 0, j, n, h, hn => ⟨Nat.le_refl _, h, hn⟩
  | k + 1, j, n, h, hn => by
    by_cases hlt : j < s.size
    · rw [digsR_one k n hlt]
      split
      · have h9 := digsR_ok (s := s) k (j + 1) (min (n * 10 + (s[j].toNat - 48)) 101) hlt (by omega)
        exact ⟨by omega, h9.2⟩
      · exact ⟨Nat.le_refl _, h, hn⟩
    · rw [digsR_end _ n (by omega)]
      exact ⟨Nat.le_refl _, h, hn⟩
/-- What digits come to. -/
def fromD (i : Nat) (R : Nat × Nat) : Rd Nat := if R.2 = i then .no i else .yes R.1 R.2
/-- What a number comes to. -/
def NumP (w : World) (U : Nat) (s : ByteArray) (g : Nat) (R : Rd Nat) (e : Ending) (w' : World) : Prop := match R with
  | .no p => (∃ x : Nat, e = .returned (.tuple #[.int .i64 x, .bool false]) ∧ x ≤ 101) ∧ RdS w U s g w' p
  | .yes n p => e = .returned (.tuple #[.int .i64 n, .bool true]) ∧ RdS w U s g w' p
theorem NumP.on {w W w' : World} {U : Nat} {s : ByteArray} {i g : Nat} {R : Rd Nat} {e : Ending} (H : RdS w U s g W i) (h : NumP W U s g R e w') : NumP w U s g R e w' := by
  cases R with
  | no p => exact ⟨h.1, H.to h.2.rd h.2.kept⟩
  | yes x p => exact ⟨h.1, H.to h.2.rd h.2.kept⟩
theorem numR_ok {s : ByteArray} {i : Nat} (hi : i ≤ s.size) : match numR s i with | .no p => i ≤ p ∧ p ≤ s.size | .yes n p => i < p ∧ p ≤ s.size ∧ n ≤ 101 := by
  unfold numR
  cases h48 : seesB s i 48 with
  | true =>
    have := seesB_lt h48
    exact ⟨by omega, by omega, by omega⟩
  | false =>
    have h9 := digsR_ok (s := s) s.size i 0 hi (by omega)
    rw [if_neg (by simp)]
    split
    · rename_i n p he
      revert he
      split
      · rintro ⟨⟩
        exact ⟨Nat.le_refl _, hi⟩
      · rintro ⟨⟩
    · rename_i n p he
      revert he
      split
      · rintro ⟨⟩
      · rintro ⟨⟩
        exact ⟨by omega, h9.2⟩

set_option maxRecDepth 100000 in
set_option maxHeartbeats 2000000 in
theorem number_any (U : Nat) (s : ByteArray) (i g : Nat) (w : World) (h : RdAt w U s i g) (hi : i ≤ s.size) (hs : s.size ≤ 1000000) :
    Calls Tryd.prog 66 #[.pointer (some ⟨U, 0, none⟩)] w fun e w' => NumP w U s g (numR s i) e w' := by
  have hU := h.lt
  have HS : Hid (RdS w U s g w i) := RdS.start h
  have HU : Hid (U < w.heap.size) := hU
  clear h
  cases h48 : seesB s i 48 with
  | true =>
    have hR : numR s i = .yes 0 (i + 1) := by unfold numR; rw [if_pos h48]
    rw [hR]
    have HK := skip_yes (w := w) (U := U) (g := g) 48 h48 hs
    clear hR h48
    go_enter Tryd.func66, Tryd.ntmps66
    go_wp2_with (go_at_call 33; refine (HK.out _ HS.out).mono ?_; clear HK HS; rintro e w1 ⟨rfl, hl⟩)
    go_ret2
    exact ⟨rfl, hl⟩
  | false =>
    obtain ⟨R, hRR⟩ : ∃ R, R = digsR s s.size i 0 := ⟨_, rfl⟩
    have hR : numR s i = fromD i R := by unfold numR fromD; rw [if_neg (by simp [h48]), hRR]
    rw [hR]
    have HR : Hid (digsR s s.size i 0 = R) := hRR.symm
    have HK := skip_no (w := w) (U := U) (g := g) 48 h48 hs
    clear hRR hR h48
    go_enter Tryd.func66, Tryd.ntmps66
    go_wp2_with (go_at_call 33; refine (HK.out _ HS.out).mono ?_; clear HK HS; rintro e w1 ⟨rfl, hl⟩; have HS1 : Hid (RdS w U s g w1 i) := hl; have c1 := hl.rd.c1; clear hl)
    clear c1
    go_loopw [5] (fun nv wr => ∃ (n j k : Nat), nv = .int .i64 n ∧ n ≤ 101 ∧ i ≤ j ∧ j ≤ s.size ∧ s.size ≤ j + k ∧ Hid (RdS w U s g wr j) ∧ Hid (digsR s k j n = R)) (fun _ wr => s.size + 1 - rdJ wr U)
    case atStart => exact ⟨0, i, s.size, rfl, by omega, Nat.le_refl _, hi, by omega, HS1, HR⟩
    case round =>
      clear HR HS1
      obtain ⟨n, j, k, rfl, hn, hij, hjs, hk, HW, HD⟩ := hrel
      have c0 := HW.out.rd.c0
      have c1 := HW.out.rd.c1
      have f1 := HW.out.rd.f1
      have HJ : Hid (rdJ wr U = j) := HW.out.rd.j
      by_cases hlt : j < s.size
      · obtain ⟨k, rfl⟩ : ∃ m, k = m + 1 := ⟨k - 1, by omega⟩
        rw [digsR_one k n hlt] at HD
        have hltz : (j : Int) < s.size := by omega
        have hb : s[j].toNat < 256 := s[j].toNat_lt
        by_cases hd : 48 ≤ s[j].toNat ∧ s[j].toNat ≤ 57
        · rw [if_pos hd] at HD
          obtain ⟨d0, d1⟩ := hd
          have e0 : (48 : Int) ≤ (s[j].toNat : Int) := by omega
          have e1 : (s[j].toNat : Int) ≤ 57 := by omega
          have hnz : (n : Int) ≤ 101 := by omega
          have HS2 : Hid (∀ q, RdS w U s g (wr.drewN q) j) := fun q => HW.out.drewN q
          clear HW
          go_wp2_with fail
          go_quiet (fail)
          go_wp2_with fail
          go_quiet (fail)
          go_wp2_with fail
          go_roundw
          case rel => exact ⟨min (n * 10 + (s[j].toNat - 48)) 101, j + 1, k, by go_num, by omega, by omega, by omega, by omega, (HS2.out _).set1 (j + 1) (by go_num), HD⟩
          case measure => rw [HJ.out, ((HS2.out _).set1 (j + 1) (by go_num)).rd.j]; omega
        · rw [if_neg hd] at HD
          have hRn : (n, j) = R := HD.out
          have e0 : (s[j].toNat : Int) < 48 ∨ (48 : Int) ≤ s[j].toNat ∧ (57 : Int) < s[j].toNat := by omega
          clear hd
          rcases e0 with e0 | ⟨e0, e1⟩
          · have e2 : decide ((48 : Int) ≤ (s[j].toNat : Int)) = false := decide_eq_false (by omega)
            have HS2 : Hid (∀ q, RdS w U s g (wr.drewN q) j) := fun q => HW.out.drewN q
            clear HW HD
            by_cases hii : i < j
            · have hiz : (i : Int) < j := by omega
              have HE : Hid (fromD i R = .yes n j) := (by rw [← hRn]; exact if_neg (by omega))
              clear hRn
              go_wp2_with fail
              go_quiet (fail)
              go_wp2_with fail
              go_quiet (fail)
              go_wp2_with fail
              go_ret2
              rw [HE.out]
              exact ⟨rfl, (HS2.out _).drewN _⟩
            · obtain rfl : j = i := by omega
              have hiz : ¬ (j : Int) < j := by omega
              have HE : Hid (fromD j R = .no j) := (by rw [← hRn]; exact if_pos rfl)
              clear hRn
              go_wp2_with fail
              go_quiet (fail)
              go_wp2_with fail
              go_quiet (fail)
              go_wp2_with fail
              go_ret2
              rw [HE.out]
              exact ⟨⟨n, rfl, hn⟩, (HS2.out _).drewN _⟩
          · have HS2 : Hid (∀ q, RdS w U s g (wr.drewN q) j) := fun q => HW.out.drewN q
            clear HW HD
            by_cases hii : i < j
            · have hiz : (i : Int) < j := by omega
              have HE : Hid (fromD i R = .yes n j) := (by rw [← hRn]; exact if_neg (by omega))
              clear hRn
              go_wp2_with fail
              go_quiet (fail)
              go_wp2_with fail
              go_quiet (fail)
              go_wp2_with fail
              go_ret2
              rw [HE.out]
              exact ⟨rfl, (HS2.out _).drewN _⟩
            · obtain rfl : j = i := by omega
              have hiz : ¬ (j : Int) < j := by omega
              have HE : Hid (fromD j R = .no j) := (by rw [← hRn]; exact if_pos rfl)
              clear hRn
              go_wp2_with fail
              go_quiet (fail)
              go_wp2_with fail
              go_quiet (fail)
              go_wp2_with fail
              go_ret2
              rw [HE.out]
              exact ⟨⟨n, rfl, hn⟩, (HS2.out _).drewN _⟩
      · rw [digsR_end k n (by omega)] at HD
        have hRn : (n, j) = R := HD.out
        have hltz : ¬ (j : Int) < s.size := by omega
        have HS2 : Hid (∀ q, RdS w U s g (wr.drewN q) j) := fun q => HW.out.drewN q
        clear HW HD
        by_cases hii : i < j
        · have hiz : (i : Int) < j := by omega
          have HE : Hid (fromD i R = .yes n j) := (by rw [← hRn]; exact if_neg (by omega))
          clear hRn
          go_wp2_with fail
          go_quiet (fail)
          go_wp2_with fail
          go_quiet (fail)
          go_wp2_with fail
          go_ret2
          rw [HE.out]
          exact ⟨rfl, (HS2.out _).drewN _⟩
        · obtain rfl : j = i := by omega
          have hiz : ¬ (j : Int) < j := by omega
          have HE : Hid (fromD j R = .no j) := (by rw [← hRn]; exact if_pos rfl)
          clear hRn
          go_wp2_with fail
          go_quiet (fail)
          go_wp2_with fail
          go_quiet (fail)
          go_wp2_with fail
          go_ret2
          rw [HE.out]
          exact ⟨⟨n, rfl, hn⟩, (HS2.out _).drewN _⟩
end Go.Proofs.YtmbkcmfcdjccoaaDoor
