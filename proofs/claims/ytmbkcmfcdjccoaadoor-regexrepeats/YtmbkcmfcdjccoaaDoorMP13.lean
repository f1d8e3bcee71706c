/- The reader of an expression: the numbers of a repeat. -/
import Derived.Test.YtmbkcmfcdjccoaaDoorMP12
namespace Go.Proofs.YtmbkcmfcdjccoaaDoor
open Go.RowKit Go.Maps

/-- What the numbers of a repeat come to. -/
def CtP (w : World) (U : Nat) (s : ByteArray) (g : Nat) (R : Rd (Nat × Int)) (e : Ending) (w' : World) : Prop := match R with
  | .no p => e = .returned (.tuple #[.int .i64 0, .int .i64 0, .bool false]) ∧ RdS w U s g w' p
  | .yes (lo, hi) p => e = .returned (.tuple #[.int .i64 lo, .int .i64 hi, .bool true]) ∧ RdS w U s g w' p
theorem CtP.on {w W w' : World} {U : Nat} {s : ByteArray} {i g : Nat} {R : Rd (Nat × Int)} {e : Ending} (H : RdS w U s g W i) (h : CtP W U s g R e w') : CtP w U s g R e w' := by
  cases R with
  | no p => exact ⟨h.1, H.to h.2.rd h.2.kept⟩
  | yes x p => exact ⟨h.1, H.to h.2.rd h.2.kept⟩
/-- What may be said of the numbers of a repeat. -/
def CtOk (s : ByteArray) (i : Nat) : Rd (Nat × Int) → Prop
  | .no p => i ≤ p ∧ p ≤ s.size
  | .yes (lo, hi) p => i < p ∧ p ≤ s.size ∧ lo ≤ 100 ∧ -1 ≤ hi ∧ hi ≤ 100 ∧ (hi = -1 ∨ (lo : Int) ≤ hi)
theorem endR_ok {s : ByteArray} {i p lo : Nat} {hi : Int} (h1 : i ≤ p) (h2 : p ≤ s.size) (h3 : -1 ≤ hi) : CtOk s i (endR s p lo hi) := by
  unfold endR
  split
  · exact ⟨h1, h2⟩
  · rename_i h
    simp only [not_or, not_and] at h
    obtain ⟨a, b, c, d⟩ := h
    have hb : seesB s p 125 = true := by simpa using a
    have := seesB_lt hb
    refine ⟨by omega, by omega, by omega, h3, by omega, ?_⟩
    by_cases h9 : hi = -1
    · exact Or.inl h9
    · exact Or.inr (by have := d h9; omega)
theorem countR_ok {s : ByteArray} {i : Nat} (hi : i ≤ s.size) : CtOk s i (countR s i) := by
  have h1 := numR_ok hi
  unfold countR
  cases hn : numR s i with
  | no p => rw [hn] at h1; exact h1
  | yes lo p =>
    rw [hn] at h1
    dsimp only at h1 ⊢
    obtain ⟨a, b, c⟩ := h1
    split
    · exact endR_ok (by omega) b (by omega)
    · rename_i h44
      have h44 : seesB s p 44 = true := by simpa using h44
      have hlt := seesB_lt h44
      split
      · exact endR_ok (by omega) (by omega) (by omega)
      · have h2 := numR_ok (s := s) (i := p + 1) hlt
        cases hm : numR s (p + 1) with
        | no q => rw [hm] at h2; exact ⟨by have := h2.1; omega, h2.2⟩
        | yes hi q =>
          rw [hm] at h2
          dsimp only at h2 ⊢
          exact endR_ok (by omega) h2.2.1 (by omega)
theorem number_is {w : World} {U : Nat} {s : ByteArray} {i g : Nat} (hi : i ≤ s.size) (hs : s.size ≤ 1000000) : Hid (∀ W, RdS w U s g W i → Calls Tryd.prog 66 #[.pointer (some ⟨U, 0, none⟩)] W fun e w' => NumP w U s g (numR s i) e w') := fun W hW => (number_any U s i g W hW.rd hi hs).mono (fun _ _ h => NumP.on hW h)

set_option maxRecDepth 100000 in
set_option maxHeartbeats 4000000 in
theorem counts_any (U : Nat) (s : ByteArray) (i g : Nat) (w : World) (h : RdAt w U s i g) (hi : i ≤ s.size) (hs : s.size ≤ 1000000) :
    Calls Tryd.prog 60 #[.pointer (some ⟨U, 0, none⟩)] w fun e w' => CtP w U s g (countR s i) e w' := by
  have hU := h.lt
  have HS : Hid (RdS w U s g w i) := RdS.start h
  have HU : Hid (U < w.heap.size) := hU
  have HN := number_is (w := w) (U := U) (g := g) hi hs
  have hok := numR_ok hi
  have hC : countR s i = match numR s i with
      | .no p => .no p
      | .yes lo p => if seesB s p 44 = false then endR s p lo lo
        else if seesB s (p + 1) 125 = true then endR s (p + 1) lo (-1)
        else match numR s (p + 1) with
          | .no q => .no q
          | .yes hi q => endR s q lo hi := rfl
  rw [hC]
  clear hC h
  generalize numR s i = N1 at *
  cases N1 with
  | no p =>
    have HN1 : Hid (∀ W, RdS w U s g W i → Calls Tryd.prog 66 #[.pointer (some ⟨U, 0, none⟩)] W fun e w' => (∃ x : Nat, e = .returned (.tuple #[.int .i64 x, .bool false]) ∧ x ≤ 101) ∧ RdS w U s g w' p) := HN.out
    clear HN
    dsimp only
    go_enter Tryd.func60, Tryd.ntmps60
    go_wp2_with (go_at_call 66; refine (HN1.out _ HS.out).mono ?_; clear HN1 HS; rintro e w1 ⟨⟨x, rfl, hx⟩, hl⟩)
    go_ret3
    exact ⟨rfl, hl⟩
  | yes lo p =>
    have HN1 : Hid (∀ W, RdS w U s g W i → Calls Tryd.prog 66 #[.pointer (some ⟨U, 0, none⟩)] W fun e w' => e = .returned (.tuple #[.int .i64 lo, .bool true]) ∧ RdS w U s g w' p) := HN.out
    clear HN
    dsimp only at hok ⊢
    obtain ⟨k1, k2, k3⟩ := hok
    have loz : (lo : Int) ≤ 101 := by omega
    cases h44 : seesB s p 44 with
    | false =>
      rw [if_pos rfl]
      have HK := skip_no (w := w) (U := U) (g := g) 44 h44 hs
      clear h44
      obtain ⟨M, hM⟩ : ∃ M : Int, max (lo : Int) (lo : Int) = M := ⟨_, rfl⟩
      have HZ := sees_is (w := w) (U := U) (s := s) (i := p) (g := g) 125 hs
      cases hz : seesB s p 125 with
      | false =>
        have HE : endR s p lo (lo : Int) = .no p := by unfold endR; rw [if_pos (Or.inl hz)]
        rw [HE]
        rw [hz] at HZ
        go_enter Tryd.func60, Tryd.ntmps60
        go_wp2_with (first
          | (go_at_call 66; refine (HN1.out _ HS.out).mono ?_; clear HN1 HS; rintro e w1 ⟨rfl, hl⟩; have HS : Hid (RdS w U s g w1 p) := hl; clear hl)
          | (go_at_call 33; refine (HK.out _ HS.out).mono ?_; clear HK HS; rintro e w2 ⟨rfl, hl⟩; have HS : Hid (RdS w U s g w2 p) := hl; clear hl)
          | (go_at_call 44; refine (HZ.out _ HS.out).mono ?_; clear HZ HS; rintro e w5 ⟨rfl, hl⟩; have HS : Hid (RdS w U s g w5 p) := hl; clear hl; have c1 := HS.out.rd.c1; have f1 := HS.out.rd.f1))
        go_ret3
        exact ⟨rfl, HS.out⟩
      | true =>
        rw [hz] at HZ
        by_cases hgt : (100 : Int) < M
        · have HE : endR s p lo (lo : Int) = .no p := by unfold endR; rw [if_pos (by omega)]
          rw [HE]
          clear HE hz
          go_enter Tryd.func60, Tryd.ntmps60
          go_wp2_with (first
            | (go_at_call 66; refine (HN1.out _ HS.out).mono ?_; clear HN1 HS; rintro e w1 ⟨rfl, hl⟩; have HS : Hid (RdS w U s g w1 p) := hl; clear hl)
            | (go_at_call 33; refine (HK.out _ HS.out).mono ?_; clear HK HS; rintro e w2 ⟨rfl, hl⟩; have HS : Hid (RdS w U s g w2 p) := hl; clear hl)
            | (go_at_call 44; refine (HZ.out _ HS.out).mono ?_; clear HZ HS; rintro e w5 ⟨rfl, hl⟩; have HS : Hid (RdS w U s g w5 p) := hl; clear hl; have c1 := HS.out.rd.c1; have f1 := HS.out.rd.f1))
          go_ret3
          exact ⟨rfl, HS.out⟩
        · have HE : endR s p lo (lo : Int) = .yes (lo, (lo : Int)) (p + 1) := by unfold endR; rw [if_neg (by rw [hz]; simp; omega)]
          rw [HE]
          clear HE hz
          go_enter Tryd.func60, Tryd.ntmps60
          go_wp2_with (first
            | (go_at_call 66; refine (HN1.out _ HS.out).mono ?_; clear HN1 HS; rintro e w1 ⟨rfl, hl⟩; have HS : Hid (RdS w U s g w1 p) := hl; clear hl)
            | (go_at_call 33; refine (HK.out _ HS.out).mono ?_; clear HK HS; rintro e w2 ⟨rfl, hl⟩; have HS : Hid (RdS w U s g w2 p) := hl; clear hl)
            | (go_at_call 44; refine (HZ.out _ HS.out).mono ?_; clear HZ HS; rintro e w5 ⟨rfl, hl⟩; have HS : Hid (RdS w U s g w5 p) := hl; clear hl; have c1 := HS.out.rd.c1; have f1 := HS.out.rd.f1))
          go_ret3
          exact ⟨rfl, HS.out.set1 (p + 1) (by go_num)⟩
    | true =>
      rw [if_neg (by simp)]
      have HK := skip_yes (w := w) (U := U) (g := g) 44 h44 hs
      have hlt := seesB_lt h44
      clear h44
      have HQ := sees_is (w := w) (U := U) (s := s) (i := p + 1) (g := g) 125 hs
      cases h125 : seesB s (p + 1) 125 with
      | true =>
        rw [if_pos rfl]
        rw [h125] at HQ
        obtain ⟨M, hM⟩ : ∃ M : Int, max (lo : Int) (-1) = M := ⟨_, rfl⟩
        have HZ := sees_is (w := w) (U := U) (s := s) (i := (p + 1)) (g := g) 125 hs
        have hz : seesB s (p + 1) 125 = true := h125
        clear h125
        rw [hz] at HZ
        by_cases hgt : (100 : Int) < M
        · have HE : endR s (p + 1) lo (-1) = .no (p + 1) := by unfold endR; rw [if_pos (by omega)]
          rw [HE]
          clear HE hz
          go_enter Tryd.func60, Tryd.ntmps60
          go_wp2_with (first
            | (go_at_call 66; refine (HN1.out _ HS.out).mono ?_; clear HN1 HS; rintro e w1 ⟨rfl, hl⟩; have HS : Hid (RdS w U s g w1 p) := hl; clear hl)
            | (go_at_call 33; refine (HK.out _ HS.out).mono ?_; clear HK HS; rintro e w2 ⟨rfl, hl⟩; have HS : Hid (RdS w U s g w2 (p + 1)) := hl; clear hl)
            | (go_at_call 44; refine (HQ.out _ HS.out).mono ?_; clear HQ HS; rintro e w3 ⟨rfl, hl⟩; have HS : Hid (RdS w U s g w3 (p + 1)) := hl; clear hl)
            | (go_at_call 44; refine (HZ.out _ HS.out).mono ?_; clear HZ HS; rintro e w5 ⟨rfl, hl⟩; have HS : Hid (RdS w U s g w5 (p + 1)) := hl; clear hl; have c1 := HS.out.rd.c1; have f1 := HS.out.rd.f1))
          go_ret3
          exact ⟨rfl, HS.out⟩
        · have HE : endR s (p + 1) lo (-1) = .yes (lo, (-1)) ((p + 1) + 1) := by unfold endR; rw [if_neg (by rw [hz]; simp; omega)]
          rw [HE]
          clear HE hz
          go_enter Tryd.func60, Tryd.ntmps60
          go_wp2_with (first
            | (go_at_call 66; refine (HN1.out _ HS.out).mono ?_; clear HN1 HS; rintro e w1 ⟨rfl, hl⟩; have HS : Hid (RdS w U s g w1 p) := hl; clear hl)
            | (go_at_call 33; refine (HK.out _ HS.out).mono ?_; clear HK HS; rintro e w2 ⟨rfl, hl⟩; have HS : Hid (RdS w U s g w2 (p + 1)) := hl; clear hl)
            | (go_at_call 44; refine (HQ.out _ HS.out).mono ?_; clear HQ HS; rintro e w3 ⟨rfl, hl⟩; have HS : Hid (RdS w U s g w3 (p + 1)) := hl; clear hl)
            | (go_at_call 44; refine (HZ.out _ HS.out).mono ?_; clear HZ HS; rintro e w5 ⟨rfl, hl⟩; have HS : Hid (RdS w U s g w5 (p + 1)) := hl; clear hl; have c1 := HS.out.rd.c1; have f1 := HS.out.rd.f1))
          go_ret3
          exact ⟨rfl, HS.out.set1 ((p + 1) + 1) (by go_num)⟩
      | false =>
        rw [if_neg (by simp)]
        rw [h125] at HQ
        have hok2 := numR_ok (s := s) (i := p + 1) hlt
        have HM := number_is (w := w) (U := U) (g := g) (s := s) (i := p + 1) hlt hs
        clear h125
        generalize numR s (p + 1) = N2 at *
        cases N2 with
        | no q =>
          have HM1 : Hid (∀ W, RdS w U s g W (p + 1) → Calls Tryd.prog 66 #[.pointer (some ⟨U, 0, none⟩)] W fun e w' => (∃ x : Nat, e = .returned (.tuple #[.int .i64 x, .bool false]) ∧ x ≤ 101) ∧ RdS w U s g w' q) := HM.out
          clear HM
          dsimp only
          go_enter Tryd.func60, Tryd.ntmps60
          go_wp2_with (first
            | (go_at_call 66; refine (HN1.out _ HS.out).mono ?_; clear HN1 HS; rintro e w1 ⟨rfl, hl⟩; have HS : Hid (RdS w U s g w1 p) := hl; clear hl)
            | (go_at_call 33; refine (HK.out _ HS.out).mono ?_; clear HK HS; rintro e w2 ⟨rfl, hl⟩; have HS : Hid (RdS w U s g w2 (p + 1)) := hl; clear hl)
            | (go_at_call 44; refine (HQ.out _ HS.out).mono ?_; clear HQ HS; rintro e w3 ⟨rfl, hl⟩; have HS : Hid (RdS w U s g w3 (p + 1)) := hl; clear hl)
            | (go_at_call 66; refine (HM1.out _ HS.out).mono ?_; clear HM1 HS; rintro e w4 ⟨⟨x, rfl, hx⟩, hl⟩))
          go_ret3
          exact ⟨rfl, hl⟩
        | yes hi2 q =>
          have HM1 : Hid (∀ W, RdS w U s g W (p + 1) → Calls Tryd.prog 66 #[.pointer (some ⟨U, 0, none⟩)] W fun e w' => e = .returned (.tuple #[.int .i64 hi2, .bool true]) ∧ RdS w U s g w' q) := HM.out
          clear HM
          dsimp only at hok2 ⊢
          obtain ⟨m1, m2, m3⟩ := hok2
          have hiz : (hi2 : Int) ≤ 101 := by omega
          have hnm : ((hi2 : Int) != -1) = true := by simp
          obtain ⟨M, hM⟩ : ∃ M : Int, max (lo : Int) (hi2 : Int) = M := ⟨_, rfl⟩
          have HZ := sees_is (w := w) (U := U) (s := s) (i := q) (g := g) 125 hs
          cases hz : seesB s q 125 with
          | false =>
            have HE : endR s q lo (hi2 : Int) = .no q := by unfold endR; rw [if_pos (Or.inl hz)]
            rw [HE]
            rw [hz] at HZ
            go_enter Tryd.func60, Tryd.ntmps60
            go_wp2_with (first
              | (go_at_call 66; refine (HN1.out _ HS.out).mono ?_; clear HN1 HS; rintro e w1 ⟨rfl, hl⟩; have HS : Hid (RdS w U s g w1 p) := hl; clear hl)
              | (go_at_call 33; refine (HK.out _ HS.out).mono ?_; clear HK HS; rintro e w2 ⟨rfl, hl⟩; have HS : Hid (RdS w U s g w2 (p + 1)) := hl; clear hl)
              | (go_at_call 44; refine (HQ.out _ HS.out).mono ?_; clear HQ HS; rintro e w3 ⟨rfl, hl⟩; have HS : Hid (RdS w U s g w3 (p + 1)) := hl; clear hl)
              | (go_at_call 66; refine (HM1.out _ HS.out).mono ?_; clear HM1 HS; rintro e w4 ⟨rfl, hl⟩; have HS : Hid (RdS w U s g w4 q) := hl; clear hl)
              | (go_at_call 44; refine (HZ.out _ HS.out).mono ?_; clear HZ HS; rintro e w5 ⟨rfl, hl⟩; have HS : Hid (RdS w U s g w5 q) := hl; clear hl; have c1 := HS.out.rd.c1; have f1 := HS.out.rd.f1))
            go_ret3
            exact ⟨rfl, HS.out⟩
          | true =>
            rw [hz] at HZ
            by_cases hgt : (100 : Int) < M
            · have HE : endR s q lo (hi2 : Int) = .no q := by unfold endR; rw [if_pos (by omega)]
              rw [HE]
              clear HE hz
              go_enter Tryd.func60, Tryd.ntmps60
              go_wp2_with (first
                | (go_at_call 66; refine (HN1.out _ HS.out).mono ?_; clear HN1 HS; rintro e w1 ⟨rfl, hl⟩; have HS : Hid (RdS w U s g w1 p) := hl; clear hl)
                | (go_at_call 33; refine (HK.out _ HS.out).mono ?_; clear HK HS; rintro e w2 ⟨rfl, hl⟩; have HS : Hid (RdS w U s g w2 (p + 1)) := hl; clear hl)
                | (go_at_call 44; refine (HQ.out _ HS.out).mono ?_; clear HQ HS; rintro e w3 ⟨rfl, hl⟩; have HS : Hid (RdS w U s g w3 (p + 1)) := hl; clear hl)
                | (go_at_call 66; refine (HM1.out _ HS.out).mono ?_; clear HM1 HS; rintro e w4 ⟨rfl, hl⟩; have HS : Hid (RdS w U s g w4 q) := hl; clear hl)
                | (go_at_call 44; refine (HZ.out _ HS.out).mono ?_; clear HZ HS; rintro e w5 ⟨rfl, hl⟩; have HS : Hid (RdS w U s g w5 q) := hl; clear hl; have c1 := HS.out.rd.c1; have f1 := HS.out.rd.f1))
              go_ret3
              exact ⟨rfl, HS.out⟩
            · by_cases hlh : (hi2 : Int) < (lo : Int)
              · have HE : endR s q lo (hi2 : Int) = .no q := by unfold endR; rw [if_pos (by omega)]
                rw [HE]
                clear HE hz
                go_enter Tryd.func60, Tryd.ntmps60
                go_wp2_with (first
                  | (go_at_call 66; refine (HN1.out _ HS.out).mono ?_; clear HN1 HS; rintro e w1 ⟨rfl, hl⟩; have HS : Hid (RdS w U s g w1 p) := hl; clear hl)
                  | (go_at_call 33; refine (HK.out _ HS.out).mono ?_; clear HK HS; rintro e w2 ⟨rfl, hl⟩; have HS : Hid (RdS w U s g w2 (p + 1)) := hl; clear hl)
                  | (go_at_call 44; refine (HQ.out _ HS.out).mono ?_; clear HQ HS; rintro e w3 ⟨rfl, hl⟩; have HS : Hid (RdS w U s g w3 (p + 1)) := hl; clear hl)
                  | (go_at_call 66; refine (HM1.out _ HS.out).mono ?_; clear HM1 HS; rintro e w4 ⟨rfl, hl⟩; have HS : Hid (RdS w U s g w4 q) := hl; clear hl)
                  | (go_at_call 44; refine (HZ.out _ HS.out).mono ?_; clear HZ HS; rintro e w5 ⟨rfl, hl⟩; have HS : Hid (RdS w U s g w5 q) := hl; clear hl; have c1 := HS.out.rd.c1; have f1 := HS.out.rd.f1))
                go_ret3
                exact ⟨rfl, HS.out⟩
              · have HE : endR s q lo (hi2 : Int) = .yes (lo, (hi2 : Int)) (q + 1) := by unfold endR; rw [if_neg (by rw [hz]; simp; omega)]
                rw [HE]
                clear HE hz
                go_enter Tryd.func60, Tryd.ntmps60
                go_wp2_with (first
                  | (go_at_call 66; refine (HN1.out _ HS.out).mono ?_; clear HN1 HS; rintro e w1 ⟨rfl, hl⟩; have HS : Hid (RdS w U s g w1 p) := hl; clear hl)
                  | (go_at_call 33; refine (HK.out _ HS.out).mono ?_; clear HK HS; rintro e w2 ⟨rfl, hl⟩; have HS : Hid (RdS w U s g w2 (p + 1)) := hl; clear hl)
                  | (go_at_call 44; refine (HQ.out _ HS.out).mono ?_; clear HQ HS; rintro e w3 ⟨rfl, hl⟩; have HS : Hid (RdS w U s g w3 (p + 1)) := hl; clear hl)
                  | (go_at_call 66; refine (HM1.out _ HS.out).mono ?_; clear HM1 HS; rintro e w4 ⟨rfl, hl⟩; have HS : Hid (RdS w U s g w4 q) := hl; clear hl)
                  | (go_at_call 44; refine (HZ.out _ HS.out).mono ?_; clear HZ HS; rintro e w5 ⟨rfl, hl⟩; have HS : Hid (RdS w U s g w5 q) := hl; clear hl; have c1 := HS.out.rd.c1; have f1 := HS.out.rd.f1))
                go_ret3
                exact ⟨rfl, HS.out.set1 (q + 1) (by go_num)⟩
end Go.Proofs.YtmbkcmfcdjccoaaDoor
