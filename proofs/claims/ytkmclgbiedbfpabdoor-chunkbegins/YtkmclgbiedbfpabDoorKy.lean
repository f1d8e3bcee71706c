/- What is packed of the first samples begins what is packed of all. -/
import Derived.Test.YtkmclgbiedbfpabDoorKw
import Derived.Deep.RegionHeld3
namespace Go.Proofs.YtkmclgbiedbfpabDoor
open Go.RowKit Go.Shelf Go.Maps

/-- From the third byte to the n-th, as a slice expression gives it. -/
theorem mid_at {w : World} {g len c : Nat} {bs : List UInt8} (h : BytesAt w (.slice (some ⟨g, 0, none⟩) len c) bs) (n : Nat) (h2 : 2 ≤ n) (hn : n ≤ len) : BytesAt w (.slice (if c = 2 then some ⟨g, 0, none⟩ else some ⟨g, 2, none⟩) (n - 2) (c - 2)) ((bs.take n).drop 2) := by
  have := (h.take n hn).rest 2 h2
  rw [Nat.zero_add] at this
  exact this

theorem row_cap {w : World} {base size n c : Nat} {e : TypeId} {a : Option Addr} {xs : List Value} (h : w.ownsRow base e size (.slice a n c) n xs) : (n : Int) ≤ (c : Int) ∧ (c : Int) ≤ 9223372036854775807 := by
  rcases h.2 with ⟨e, h0⟩ | ⟨g, cap, cur, e, _, _, h3, h4, _⟩
  · have := (Value.slice.inj e).2
    omega
  · have := (Value.slice.inj e).2.2
    unfold maxLen at h4
    omega

set_option maxRecDepth 100000 in
set_option maxHeartbeats 4000000 in
theorem begins_any (v : Value) (l : List Sm) (k0 : Int) (w : World) (h : SmpAt w v l) (hk0 : -9223372036854775808 ≤ k0 ∧ k0 ≤ 9223372036854775807) (hL : Laid w w.heap.size) :
    Calls Tryd.prog 3 #[v, .int .i64 k0] w fun e w' => e = .returned (.bool true) ∧ Below w.heap.size w w' := by
  obtain ⟨a, c, rfl, hlc, hnn, -⟩ := id h
  have hmx : c ≤ 9223372036854775807 := by have h1 := hlc; unfold maxLen at h1; omega
  obtain ⟨n, hn⟩ : ∃ n, n = min 120 l.length := ⟨_, rfl⟩
  obtain ⟨k, hk, hkn⟩ : ∃ k : Nat, (k : Int) = k0 % ((n : Int) + 1) ∧ k ≤ n := by
    have h1 := Int.emod_nonneg k0 (b := (n : Int) + 1) (by omega)
    have h2 := Int.emod_lt_of_pos k0 (b := (n : Int) + 1) (by omega)
    exact ⟨(k0 % ((n : Int) + 1)).toNat, by omega, by omega⟩
  have hs := h.take n (by omega)
  have hs2 := hs.take k hkn
  obtain ⟨L, hLL⟩ : ∃ L, L = l.take n := ⟨_, rfl⟩
  rw [← hLL] at hs hs2
  have hLl : L.length = n := by rw [hLL]; simp; omega
  have hkl : (L.take k).length = k := by simp; omega
  obtain ⟨N, hN⟩ : ∃ N, N = (16 + (encB (L.take k)).length) / 8 := ⟨_, rfl⟩
  obtain ⟨b1, b2, b3, b4⟩ := enc_begins L k N hN
  obtain ⟨B, hB⟩ : ∃ B, B = 16 + (encB (L.take k)).length := ⟨_, rfl⟩
  have hBl : B ≤ 100000 := by have := encB_length (L.take k); omega
  rw [← hB] at hN
  have WI : Hid (∀ W, Calls Tryd.prog 4 #[.int .i64 k0, .int .i64 ((n : Int) + 1)] W fun e w' => e = .returned (.int .i64 k) ∧ w' = W) := fun W => by
    have := within_any k0 ((n : Int) + 1) W (by omega) (by omega) hk0.1 hk0.2
    rw [← hk] at this
    exact this
  have K1 : Hid (Calls Tryd.prog 5 #[.slice a k c] w (fun e w' => ∃ v', e = .returned (.tuple #[v', .int .i64 0]) ∧ w'.ownsRow w.heap.size 5 1 v' (encR (L.take k)).length (byteVals (encR (L.take k))) ∧ Below w.heap.size w w')) := encode_any _ _ w hs2 (by omega) hL
  have K2 : Hid (∀ W, Below w.heap.size w W → Calls Tryd.prog 5 #[.slice a n c] W (fun e w' => ∃ v', e = .returned (.tuple #[v', .int .i64 0]) ∧ w'.ownsRow W.heap.size 5 1 v' (encR L).length (byteVals (encR L)) ∧ Below W.heap.size W w')) := fun W hb => encode_any _ _ W (hs.below hb) (by omega) ((hL.below hb).mono hb.size)
  have K3 : Hid (∀ W, Below w.heap.size w W → Calls Tryd.prog 6 #[.slice a k c] W fun e w' => e = .returned (.int .i64 (B : Int)) ∧ Below W.heap.size W w') := fun W hb => by
    have := bits_any _ _ W (hs2.below hb) (by omega) ((hL.below hb).mono hb.size)
    rw [← hB] at this
    exact this
  have K4 : Hid (∀ W, Below w.heap.size w W → Calls Tryd.prog 7 #[] W fun e w' => e = .returned (.bool true) ∧ Below W.heap.size W w') := fun W hb => wakes_any W ((hL.below hb).mono hb.size)
  have HX : Hid (∀ W g d, BytesAt W (.slice (some ⟨g, 0, none⟩) (encR (L.take k)).length d) (encR (L.take k)) → (convert 24 9 (.slice (if d = 2 then some ⟨g, 0, none⟩ else some ⟨g, 2, none⟩) (N - 2) (d - 2))).run Tryd.prog W = .ok (.string ⟨(((encR L).take N).drop 2).toArray⟩) W) := fun W g d hV => by
    rw [← b4]
    exact (mid_at hV N b1 b2).str
  have HY : Hid (∀ W g d, BytesAt W (.slice (some ⟨g, 0, none⟩) (encR L).length d) (encR L) → (convert 24 9 (.slice (if d = 2 then some ⟨g, 0, none⟩ else some ⟨g, 2, none⟩) (N - 2) (d - 2))).run Tryd.prog W = .ok (.string ⟨(((encR L).take N).drop 2).toArray⟩) W) := fun W g d hV => (mid_at hV N b1 b3).str
  generalize (⟨(((encR L).take N).drop 2).toArray⟩ : ByteArray) = tx at *
  have e8 : (B : Int) / 8 = (N : Int) := by omega
  have cut : (120 < l.length ∧ n = 120 ∧ (120 : Int) < (l.length : Int) ∧ (120 : Int) ≤ (c : Int) ∧ ∃ b o, a = some ⟨b, o, none⟩) ∨ (l.length ≤ 120 ∧ n = l.length ∧ (l.length : Int) ≤ 120) := by
    rcases Nat.lt_or_ge 120 l.length with h9 | h9
    · obtain ⟨b, o, e, -⟩ := h.one 0 (by omega)
      exact Or.inl ⟨h9, by omega, by omega, by omega, b, o, e⟩
    · exact Or.inr ⟨h9, by omega, by omega⟩
  have hkc : (k : Int) ≤ (c : Int) := by omega
  generalize hxx : encR (L.take k) = x at *
  generalize hyy : encR L = y at *
  have b1i : (2 : Int) ≤ (N : Int) := by omega
  have b2i : (N : Int) ≤ (x.length : Int) := by omega
  have b3i : (N : Int) ≤ (y.length : Int) := by omega
  clear hxx hyy h hs hs2 hL hB hN hLL hLl hkl b4 hn hk
  have cut3 : (n = 120 ∧ (120 : Int) < (l.length : Int) ∧ (120 : Int) ≤ (c : Int) ∧ ∃ b o, a = some ⟨b, o, none⟩) ∨ (n = l.length ∧ (l.length : Int) ≤ 120 ∧ ∃ ad, a = some ad) ∨ (n = l.length ∧ (l.length : Int) ≤ 120 ∧ a = none ∧ c = 0 ∧ k = 0 ∧ l = []) := by
    rcases cut with ⟨hl0, e, hl1, hl2, h9⟩ | ⟨hl0, e, hl1⟩
    · exact Or.inl ⟨e, hl1, hl2, h9⟩
    · cases a with
      | none => exact Or.inr (Or.inr ⟨e, hl1, rfl, (hnn rfl).1, by have h8 := (hnn rfl).2; subst h8; simp at e; omega, (hnn rfl).2⟩)
      | some ad => exact Or.inr (Or.inl ⟨e, hl1, ad, rfl⟩)
  clear cut hnn hlc
  rcases cut3 with ⟨rfl, hl1, hl2, b, o, rfl⟩ | ⟨rfl, hl1, ad, rfl⟩ | ⟨rfl, hl1, rfl, rfl, rfl, rfl⟩
  all_goals
    go_enter Tryd.func3, Tryd.ntmps3
    go_wp2_with (first
      | (go_at_call 4; refine (WI.out _).mono ?_; clear WI; rintro e w1 ⟨rfl, hw1⟩; have hw1 := hw1.symm; subst hw1)
      | (go_at_call 5; refine K1.out.mono ?_; clear K1; rintro e w1 ⟨v1, rfl, hr1, hb1⟩; obtain ⟨a1, c1, hv1⟩ := slice_of_row hr1; subst hv1; obtain ⟨g1, hg1⟩ := row_some hr1 (by omega); subst hg1; have hk2 := K2.out w1 hb1; clear K2; have HC1 : Hid (∀ W, Below w1.heap.size w1 W → (convert 24 9 (.slice (if c1 = 2 then some ⟨g1, 0, none⟩ else some ⟨g1, 2, none⟩) (N - 2) (c1 - 2))).run Tryd.prog W = .ok (.string tx) W) := (fun W hb => HX.out W _ _ ((BytesAt.of_row hr1).below hb)); have hcap1 := row_cap hr1; have HB1 : Hid (Below w.heap.size w w1) := hb1; clear hr1 hb1)
      | (go_at_call 5; refine hk2.mono ?_; clear hk2; rintro e w2 ⟨v2, rfl, hr2, hb2⟩; obtain ⟨a2, c2, hv2⟩ := slice_of_row hr2; subst hv2; obtain ⟨g2, hg2⟩ := row_some hr2 (by omega); subst hg2; have HC2 : Hid (∀ W, Below w2.heap.size w2 W → (convert 24 9 (.slice (if c1 = 2 then some ⟨g1, 0, none⟩ else some ⟨g1, 2, none⟩) (N - 2) (c1 - 2))).run Tryd.prog W = .ok (.string tx) W ∧ (convert 24 9 (.slice (if c2 = 2 then some ⟨g2, 0, none⟩ else some ⟨g2, 2, none⟩) (N - 2) (c2 - 2))).run Tryd.prog W = .ok (.string tx) W) := (fun W hb => ⟨HC1.out W (hb2.trans (hb.mono hb2.size)), HY.out W _ _ ((BytesAt.of_row hr2).below hb)⟩); have hcap2 := row_cap hr2; have hbw2 : Below w.heap.size w w2 := HB1.out.trans (hb2.mono HB1.out.size); have hk3 := K3.out w2 hbw2; have HB2 : Hid (Below w.heap.size w w2) := hbw2; clear hr2 hb2 hbw2 HB1 HC1 K3)
      | (go_at_call 6; refine hk3.mono ?_; clear hk3; rintro e w3 ⟨rfl, hb3⟩; have HB3 : Hid (Below w2.heap.size w2 w3) := hb3; clear hb3))
    have d0 := HC2.out w3 HB3.out
    have HD : Hid (Below w2.heap.size w2 w3.drew) := HB3.out.drew
    have d1 := HC2.out w3.drew HD.out
    have n1 : (N : Int) ≤ (c1 : Int) := by omega
    have n2 : (N : Int) ≤ (c2 : Int) := by omega
    have n3 : (0 : Int) ≤ (N : Int) := by omega
    rcases Nat.decEq c1 2 with q1 | q1 <;> rcases Nat.decEq c2 2 with q2 | q2
    · have HC3 : Hid (∀ W, Below w2.heap.size w2 W → (convert 24 9 (.slice (some ⟨g1, 2, none⟩) (N - 2) (c1 - 2))).run Tryd.prog W = .ok (.string tx) W ∧ (convert 24 9 (.slice (some ⟨g2, 2, none⟩) (N - 2) (c2 - 2))).run Tryd.prog W = .ok (.string tx) W) := fun W hb => by
        have h9 := HC2.out W hb
        rw [if_neg q1, if_neg q2] at h9
        exact h9
      clear HC2 d0 d1
      have d0 := HC3.out w3 HB3.out
      have d1 := HC3.out w3.drew HD.out
      go_region_held3 (fun W => (convert 24 9 (.slice (some ⟨g1, 2, none⟩) (N - 2) (c1 - 2))).run Tryd.prog W = .ok (.string tx) W ∧ (convert 24 9 (.slice (some ⟨g2, 2, none⟩) (N - 2) (c2 - 2))).run Tryd.prog W = .ok (.string tx) W)
        (first | exact d1 | exact d0 | exact f0)
        (first
          | (go_at_call 7; refine (K4.out _ (HB2.out.trans (HD.out.mono HB2.out.size))).mono ?_; clear K4; rintro e w4 ⟨rfl, hb4⟩; have HB4 : Hid (Below w2.heap.size w2 w4) := HD.out.trans (hb4.mono HD.out.size); have f0 := HC3.out w4 HB4.out; clear hb4))
      go_wp2
      go_ret
      exact ⟨rfl, HB2.out.trans (HB4.out.mono HB2.out.size)⟩
    · obtain rfl : N = 2 := by omega
      have m1 : (2 : Int) ≤ (c1 : Int) := by omega
      subst q2
      have HC3 : Hid (∀ W, Below w2.heap.size w2 W → (convert 24 9 (.slice (some ⟨g1, 2, none⟩) (2 - 2) (c1 - 2))).run Tryd.prog W = .ok (.string tx) W ∧ (convert 24 9 (.slice (some ⟨g2, 0, none⟩) (2 - 2) (2 - 2))).run Tryd.prog W = .ok (.string tx) W) := fun W hb => by
        have h9 := HC2.out W hb
        rw [if_neg q1, if_pos rfl] at h9
        exact h9
      clear HC2 d0 d1
      have d0 := HC3.out w3 HB3.out
      have d1 := HC3.out w3.drew HD.out
      go_region_held3 (fun W => (convert 24 9 (.slice (some ⟨g1, 2, none⟩) (2 - 2) (c1 - 2))).run Tryd.prog W = .ok (.string tx) W ∧ (convert 24 9 (.slice (some ⟨g2, 0, none⟩) (2 - 2) (2 - 2))).run Tryd.prog W = .ok (.string tx) W)
        (first | exact d1 | exact d0 | exact f0)
        (first
          | (go_at_call 7; refine (K4.out _ (HB2.out.trans (HD.out.mono HB2.out.size))).mono ?_; clear K4; rintro e w4 ⟨rfl, hb4⟩; have HB4 : Hid (Below w2.heap.size w2 w4) := HD.out.trans (hb4.mono HD.out.size); have f0 := HC3.out w4 HB4.out; clear hb4))
      go_wp2
      go_ret
      exact ⟨rfl, HB2.out.trans (HB4.out.mono HB2.out.size)⟩
    · obtain rfl : N = 2 := by omega
      subst q1
      have m2 : (2 : Int) ≤ (c2 : Int) := by omega
      have HC3 : Hid (∀ W, Below w2.heap.size w2 W → (convert 24 9 (.slice (some ⟨g1, 0, none⟩) (2 - 2) (2 - 2))).run Tryd.prog W = .ok (.string tx) W ∧ (convert 24 9 (.slice (some ⟨g2, 2, none⟩) (2 - 2) (c2 - 2))).run Tryd.prog W = .ok (.string tx) W) := fun W hb => by
        have h9 := HC2.out W hb
        rw [if_pos rfl, if_neg q2] at h9
        exact h9
      clear HC2 d0 d1
      have d0 := HC3.out w3 HB3.out
      have d1 := HC3.out w3.drew HD.out
      go_region_held3 (fun W => (convert 24 9 (.slice (some ⟨g1, 0, none⟩) (2 - 2) (2 - 2))).run Tryd.prog W = .ok (.string tx) W ∧ (convert 24 9 (.slice (some ⟨g2, 2, none⟩) (2 - 2) (c2 - 2))).run Tryd.prog W = .ok (.string tx) W)
        (first | exact d1 | exact d0 | exact f0)
        (first
          | (go_at_call 7; refine (K4.out _ (HB2.out.trans (HD.out.mono HB2.out.size))).mono ?_; clear K4; rintro e w4 ⟨rfl, hb4⟩; have HB4 : Hid (Below w2.heap.size w2 w4) := HD.out.trans (hb4.mono HD.out.size); have f0 := HC3.out w4 HB4.out; clear hb4))
      go_wp2
      go_ret
      exact ⟨rfl, HB2.out.trans (HB4.out.mono HB2.out.size)⟩
    · obtain rfl : N = 2 := by omega
      subst q1
      subst q2
      have HC3 : Hid (∀ W, Below w2.heap.size w2 W → (convert 24 9 (.slice (some ⟨g1, 0, none⟩) (2 - 2) (2 - 2))).run Tryd.prog W = .ok (.string tx) W ∧ (convert 24 9 (.slice (some ⟨g2, 0, none⟩) (2 - 2) (2 - 2))).run Tryd.prog W = .ok (.string tx) W) := fun W hb => by
        have h9 := HC2.out W hb
        rw [if_pos rfl, if_pos rfl] at h9
        exact h9
      clear HC2 d0 d1
      have d0 := HC3.out w3 HB3.out
      have d1 := HC3.out w3.drew HD.out
      go_region_held3 (fun W => (convert 24 9 (.slice (some ⟨g1, 0, none⟩) (2 - 2) (2 - 2))).run Tryd.prog W = .ok (.string tx) W ∧ (convert 24 9 (.slice (some ⟨g2, 0, none⟩) (2 - 2) (2 - 2))).run Tryd.prog W = .ok (.string tx) W)
        (first | exact d1 | exact d0 | exact f0)
        (first
          | (go_at_call 7; refine (K4.out _ (HB2.out.trans (HD.out.mono HB2.out.size))).mono ?_; clear K4; rintro e w4 ⟨rfl, hb4⟩; have HB4 : Hid (Below w2.heap.size w2 w4) := HD.out.trans (hb4.mono HD.out.size); have f0 := HC3.out w4 HB4.out; clear hb4))
      go_wp2
      go_ret
      exact ⟨rfl, HB2.out.trans (HB4.out.mono HB2.out.size)⟩

end Go.Proofs.YtkmclgbiedbfpabDoor
