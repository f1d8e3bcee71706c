/- The reader of an expression: a thing. -/
import Derived.Test.YtmbkcmfcdjccoaaDoorMP19
namespace Go.Proofs.YtmbkcmfcdjccoaaDoor
open Go.RowKit Go.Maps

instance instRise : ∀ (l : List Sp) (f : Int), Decidable (RiseS l f)
  | [], f => by unfold RiseS; infer_instance
  | s :: t, f => by
    unfold RiseS
    have := instRise t (s.2 + 1)
    infer_instance
theorem let_rise : ∀ n : Fin 256, ((letS (UInt8.ofNat n.val)).map fun l => decide (RiseS l 0)).getD true = true := by decide +kernel
theorem letS_rise {c : UInt8} {l : List Sp} (h : letS c = some l) : RiseS l 0 := by
  have h9 := let_rise ⟨c.toNat, c.toNat_lt⟩
  rw [UInt8.ofNat_toNat, h] at h9
  simpa using h9
theorem rise_one {x y : Int} (h0 : 0 ≤ x) (h1 : x ≤ y) : RiseS [(x, y)] 0 := ⟨h0, h1, trivial⟩
theorem escR_cls {s : ByteArray} {i p : Nat} {l : List Sp} {al : Bool} (h : escR s i = .yes (l, al) p) : ClsOk l l false := by
  refine ClsOk.same ?_ (escR_ok2 h).1 (fun _ => rfl)
  unfold escR at h
  split at h
  · cases h
  · split at h
    · rename_i hl
      cases h
      exact letS_rise hl
    · split at h
      · rename_i he
        cases h
        exact rise_one (escB_in he).1 (Int.le_refl _)
      · cases h
theorem cls_one {x y : Int} (h0 : 0 ≤ x) (h1 : x ≤ y) (h2 : y ≤ maxR) : ClsOk [(x, y)] [(x, y)] false := ClsOk.same (rise_one h0 h1) (Ok32.one h0 h1 h2) (fun _ => rfl)
/-- The node of a class. -/
theorem nd_take {W : World} {S0 : Nat} {v : Value} {A l : List Sp} {neg : Bool} (hr : SpR W S0 v A) (hc : ClsOk A l neg) (hS : S0 ≤ W.heap.size) : NdAt (W.alloc (.cells #[.int .i64 0, v, .slice none 0 0, .int .i64 0, .int .i64 0, .int .i64 0, .bool false, .int .i64 1] 65)) (Fresh S0 (W.alloc (.cells #[.int .i64 0, v, .slice none 0 0, .int .i64 0, .int .i64 0, .int .i64 0, .bool false, .int .i64 1] 65)).heap.size) (.take l neg) W.heap.size := by
  unfold NdAt
  refine ⟨⟨hS, by simp⟩, v, A, heap_alloc_new _ _, ⟨row_mono (row_below hr ((Below.refl _ _).alloc (Nat.le_refl _) _)) (Nat.zero_le _), fun j hj => ?_⟩, hc⟩
  have h9 := hr.lt j hj
  exact ⟨h9.1, by have := h9.2; simp; omega⟩
theorem taking_is : Hid (∀ (W : World) (a : Option Addr) (n c : Nat), Calls Tryd.prog 55 #[.slice a n c] W fun e w' => e = .returned (.pointer (some ⟨W.heap.size, 0, none⟩)) ∧ w' = W.alloc (.cells #[.int .i64 0, .slice a n c, .slice none 0 0, .int .i64 0, .int .i64 0, .int .i64 0, .bool false, .int .i64 1] 65)) := fun W a n c => taking_any _ a n c rfl W
/-- A class is read, while the reader is under way. -/
theorem class_is {w : World} {U B : Nat} {s : ByteArray} {i g : Nat} (hE : Env8 w B) (hB : B ≤ U) (hBw : B ≤ w.heap.size) (hi : i ≤ s.size) (hs : s.size ≤ 10000) : Hid (∀ W, RdS w U s g W i → Calls Tryd.prog 54 #[.pointer (some ⟨U, 0, none⟩)] W fun e w' => ClP w U s g (classR s i) e w') := fun W hW => (class_any B U s i g W hW.rd (hE.kept hW.kept hB hBw) hB hi hs).mono (by
  intro e w' h
  cases hr : classR s i with
  | no p => rw [hr] at h; exact ⟨h.1, hW.onto h.2⟩
  | yes r p =>
    obtain ⟨l, neg⟩ := r
    rw [hr] at h
    obtain ⟨a, c, A, he, h1, h2, h3⟩ := h
    exact ⟨a, c, A, he, h1.mono hW.size, h2, hW.onto h3⟩)
theorem escape_is {w : World} {U : Nat} {s : ByteArray} {i g : Nat} (hU : U < w.heap.size) (hi : i ≤ s.size) (hs : s.size ≤ 1000000) : Hid (∀ W, RdS w U s g W i → Calls Tryd.prog 57 #[.pointer (some ⟨U, 0, none⟩)] W fun e w' => MbP w U s g (escR s i) e w') := fun W hW => (escape_any U s i g W hW.rd hi hs).mono (fun _e _w' h => MbP.on hW hU h)

set_option maxRecDepth 100000 in
set_option maxHeartbeats 8000000 in
theorem thing_next {s : ByteArray} {n : Nat} (hBr : ∀ i g, i ≤ s.size → g + 1 ≤ i → 5 * (s.size - i) + 3 ≤ n → PtC 53 s i g (bracketR s n i g)) (hs : s.size ≤ 10000) :
    ∀ i g, i < s.size → g ≤ i → 5 * (s.size - i) ≤ n + 1 + 1 → PtC 51 s i g (thingR s (n + 1) i g) := by
  intro i g hi hg hn U B w h hE hB
  have hU := h.lt
  have hsm : s.size ≤ 1000000 := by omega
  have HS : Hid (RdS w U s g w i) := RdS.start h
  have HU : Hid (U < w.heap.size) := hU
  have HTK := taking_is
  rw [thing_one]
  cases h40 : seesB s i 40 with
  | true =>
    rw [if_pos rfl]
    have HK := skip_yes (w := w) (U := U) (g := g) 40 h40 hsm
    have HB := (hBr (i + 1) g (by omega) (by omega) (by omega)).is hE hB (by omega)
    generalize bracketR s n (i + 1) g = R at *
    clear h hE hBr
    go_enter Tryd.func51, Tryd.ntmps51
    go_wp2_with (first
      | (go_at_call 33; refine (HK.out _ HS.out).mono ?_; clear HK HS; rintro e w1 ⟨rfl, hl⟩; have HS : Hid (RdS w U s g w1 (i + 1)) := hl; clear hl)
      | (go_at_call 53; refine (HB.out _ HS.out).mono ?_; clear HB HS; rintro e w2 ⟨x, rfl, hl⟩; have HQ : Hid (PtQ w U s R x w2) := hl; clear hl))
    go_ret2
    exact ⟨_, rfl, HQ.out⟩
  | false =>
    rw [if_neg (by simp)]
    clear hBr
    have HK := skip_no (w := w) (U := U) (g := g) 40 h40 hsm
    clear h40
    cases h91 : seesB s i 91 with
    | true =>
      rw [if_pos rfl]
      have HK2 := skip_yes (w := w) (U := U) (g := g) 91 h91 hsm
      have HC := class_is (w := w) (U := U) (g := g) (s := s) (i := i + 1) hE hB (by omega) (by omega) hs
      clear h hE
      cases hr : classR s (i + 1) with
      | no q =>
        rw [hr] at HC
        have HC2 : Hid (∀ W, RdS w U s g W (i + 1) → Calls Tryd.prog 54 #[.pointer (some ⟨U, 0, none⟩)] W fun e w' => e = .returned (.tuple #[.slice none 0 0, .bool false]) ∧ RdS w U s g w' q) := HC.out
        clear HC hr
        dsimp only
        go_enter Tryd.func51, Tryd.ntmps51
        go_wp2_with (first
          | (go_at_call 33; refine (HK.out _ HS.out).mono ?_; clear HK HS; rintro e w1 ⟨rfl, hl⟩; have HS : Hid (RdS w U s g w1 i) := hl; clear hl)
          | (go_at_call 33; refine (HK2.out _ HS.out).mono ?_; clear HK2 HS; rintro e w2 ⟨rfl, hl⟩; have HS : Hid (RdS w U s g w2 (i + 1)) := hl; clear hl)
          | (go_at_call 54; refine (HC2.out _ HS.out).mono ?_; clear HC2 HS; rintro e w3 ⟨rfl, hl⟩; have HS : Hid (RdS w U s g w3 q) := hl; clear hl)
          | (go_at_call 55; refine (HTK.out _ _ _ _).mono ?_; clear HTK; rintro e w4 ⟨rfl, rfl⟩))
        go_ret2
        exact ⟨_, rfl, g, HS.out.made _⟩
      | yes r q =>
        obtain ⟨l, neg⟩ := r
        rw [hr] at HC
        have HC2 : Hid (∀ W, RdS w U s g W (i + 1) → Calls Tryd.prog 54 #[.pointer (some ⟨U, 0, none⟩)] W fun e w' => ∃ a c A, e = .returned (.tuple #[.slice a A.length c, .bool true]) ∧ SpR w' w.heap.size (.slice a A.length c) A ∧ ClsOk A l neg ∧ RdS w U s g w' q) := HC.out
        clear HC hr
        dsimp only
        go_enter Tryd.func51, Tryd.ntmps51
        go_wp2_with (first
          | (go_at_call 33; refine (HK.out _ HS.out).mono ?_; clear HK HS; rintro e w1 ⟨rfl, hl⟩; have HS : Hid (RdS w U s g w1 i) := hl; clear hl)
          | (go_at_call 33; refine (HK2.out _ HS.out).mono ?_; clear HK2 HS; rintro e w2 ⟨rfl, hl⟩; have HS : Hid (RdS w U s g w2 (i + 1)) := hl; clear hl)
          | (go_at_call 54; refine (HC2.out _ HS.out).mono ?_; clear HC2 HS; rintro e w3 ⟨a, c, A, rfl, h1, h2, hl⟩; have HS : Hid (RdS w U s g w3 q) := hl; have HA : Hid (SpR w3 w.heap.size (.slice a A.length c) A ∧ ClsOk A l neg) := ⟨h1, h2⟩; clear hl h1 h2)
          | (go_at_call 55; refine (HTK.out _ _ _ _).mono ?_; clear HTK; rintro e w4 ⟨rfl, rfl⟩))
        go_ret2
        exact ⟨_, rfl, _, rfl, HS.out.made _, nd_take HA.out.1 HA.out.2 HS.out.size⟩
    | false =>
      rw [if_neg (by simp)]
      have HK2 := skip_no (w := w) (U := U) (g := g) 91 h91 hsm
      clear h91
      cases h46 : seesB s i 46 with
      | true =>
        rw [if_pos rfl]
        have HK3 := skip_yes (w := w) (U := U) (g := g) 46 h46 hsm
        have HV : Hid (∀ W, Calls Tryd.prog 56 #[] W fun e w' => ∃ a c, e = .returned (.slice a 1 c) ∧ SpR w' W.heap.size (.slice a 1 c) [(0, maxR)] ∧ Below W.heap.size W w') := fun W => (every_any W).mono (by rintro e w' ⟨v, he, hr, hb⟩; obtain ⟨a, c, rfl⟩ := hr.slice; exact ⟨a, c, he, hr, hb⟩)
        clear h hE
        go_enter Tryd.func51, Tryd.ntmps51
        go_wp2_with (first
          | (go_at_call 33; refine (HK.out _ HS.out).mono ?_; clear HK HS; rintro e w1 ⟨rfl, hl⟩; have HS : Hid (RdS w U s g w1 i) := hl; clear hl)
          | (go_at_call 33; refine (HK2.out _ HS.out).mono ?_; clear HK2 HS; rintro e w2 ⟨rfl, hl⟩; have HS : Hid (RdS w U s g w2 i) := hl; clear hl)
          | (go_at_call 33; refine (HK3.out _ HS.out).mono ?_; clear HK3 HS; rintro e w3 ⟨rfl, hl⟩; have HS : Hid (RdS w U s g w3 (i + 1)) := hl; clear hl)
          | (go_at_call 56; refine (HV.out _).mono ?_; clear HV; rintro e w4 ⟨a, c, rfl, h1, h2⟩; have HS4 : Hid (RdS w U s g w4 (i + 1)) := HS.out.below h2; have HA : Hid (SpR w4 w.heap.size (.slice a 1 c) [(0, maxR)]) := h1.mono HS.out.size; clear h1 h2 HS)
          | (go_at_call 55; refine (HTK.out _ _ _ _).mono ?_; clear HTK; rintro e w5 ⟨rfl, rfl⟩))
        go_ret2
        exact ⟨_, rfl, _, rfl, HS4.out.made _, nd_take HA.out (cls_one (Int.le_refl _) (by decide) (Int.le_refl _)) HS4.out.size⟩
      | false =>
        rw [if_neg (by simp)]
        have HK3 := skip_no (w := w) (U := U) (g := g) 46 h46 hsm
        clear h46
        cases h92 : seesB s i 92 with
        | true =>
          rw [if_pos rfl]
          have HK4 := skip_yes (w := w) (U := U) (g := g) 92 h92 hsm
          have HC := escape_is (w := w) (U := U) (g := g) (s := s) (i := i + 1) hU (by omega) hsm
          clear h hE
          cases hr : escR s (i + 1) with
          | no q =>
            rw [hr] at HC
            have HC2 : Hid (∀ W, RdS w U s g W (i + 1) → Calls Tryd.prog 57 #[.pointer (some ⟨U, 0, none⟩)] W fun e w' => e = .returned (.tuple #[.slice none 0 0, .bool false, .bool false]) ∧ RdS w U s g w' q) := HC.out
            clear HC hr
            dsimp only
            go_enter Tryd.func51, Tryd.ntmps51
            go_wp2_with (first
              | (go_at_call 33; refine (HK.out _ HS.out).mono ?_; clear HK HS; rintro e w1 ⟨rfl, hl⟩; have HS : Hid (RdS w U s g w1 i) := hl; clear hl)
              | (go_at_call 33; refine (HK2.out _ HS.out).mono ?_; clear HK2 HS; rintro e w2 ⟨rfl, hl⟩; have HS : Hid (RdS w U s g w2 i) := hl; clear hl)
              | (go_at_call 33; refine (HK3.out _ HS.out).mono ?_; clear HK3 HS; rintro e w3 ⟨rfl, hl⟩; have HS : Hid (RdS w U s g w3 i) := hl; clear hl)
              | (go_at_call 33; refine (HK4.out _ HS.out).mono ?_; clear HK4 HS; rintro e w4 ⟨rfl, hl⟩; have HS : Hid (RdS w U s g w4 (i + 1)) := hl; clear hl)
              | (go_at_call 57; refine (HC2.out _ HS.out).mono ?_; clear HC2 HS; rintro e w5 ⟨rfl, hl⟩; have HS : Hid (RdS w U s g w5 q) := hl; clear hl)
              | (go_at_call 55; refine (HTK.out _ _ _ _).mono ?_; clear HTK; rintro e w6 ⟨rfl, rfl⟩))
            go_ret2
            exact ⟨_, rfl, g, HS.out.made _⟩
          | yes r q =>
            obtain ⟨l, al⟩ := r
            have HCL : Hid (ClsOk l l false) := escR_cls hr
            rw [hr] at HC
            have HC2 : Hid (∀ W, RdS w U s g W (i + 1) → Calls Tryd.prog 57 #[.pointer (some ⟨U, 0, none⟩)] W fun e w' => ∃ a c, e = .returned (.tuple #[.slice a l.length c, .bool al, .bool true]) ∧ SpR w' w.heap.size (.slice a l.length c) l ∧ RdS w U s g w' q) := HC.out
            clear HC hr
            dsimp only
            go_enter Tryd.func51, Tryd.ntmps51
            go_wp2_with (first
              | (go_at_call 33; refine (HK.out _ HS.out).mono ?_; clear HK HS; rintro e w1 ⟨rfl, hl⟩; have HS : Hid (RdS w U s g w1 i) := hl; clear hl)
              | (go_at_call 33; refine (HK2.out _ HS.out).mono ?_; clear HK2 HS; rintro e w2 ⟨rfl, hl⟩; have HS : Hid (RdS w U s g w2 i) := hl; clear hl)
              | (go_at_call 33; refine (HK3.out _ HS.out).mono ?_; clear HK3 HS; rintro e w3 ⟨rfl, hl⟩; have HS : Hid (RdS w U s g w3 i) := hl; clear hl)
              | (go_at_call 33; refine (HK4.out _ HS.out).mono ?_; clear HK4 HS; rintro e w4 ⟨rfl, hl⟩; have HS : Hid (RdS w U s g w4 (i + 1)) := hl; clear hl)
              | (go_at_call 57; refine (HC2.out _ HS.out).mono ?_; clear HC2 HS; rintro e w5 ⟨a, c, rfl, h1, hl⟩; have HS : Hid (RdS w U s g w5 q) := hl; have HA : Hid (SpR w5 w.heap.size (.slice a l.length c) l) := h1; clear hl h1)
              | (go_at_call 55; refine (HTK.out _ _ _ _).mono ?_; clear HTK; rintro e w6 ⟨rfl, rfl⟩))
            go_ret2
            exact ⟨_, rfl, _, rfl, HS.out.made _, nd_take HA.out HCL.out HS.out.size⟩
        | false =>
          rw [if_neg (by simp)]
          have HK4 := skip_no (w := w) (U := U) (g := g) 92 h92 hsm
          clear h92
          have hbl : s[i].toNat < 256 := s[i].toNat_lt
          have hltz : (i : Int) < s.size := by omega
          have HSP : Hid (∀ W, Calls Tryd.prog 22 #[.int .u8 s[i].toNat] W fun e w' => e = .returned (.bool (specB s[i])) ∧ w' = W) := fun W => special_any s[i] W
          have hb : ((s.data.toList[i]?).map specB).getD false = specB s[i] := by rw [at_some hi]; rfl
          rw [hb]
          have HCH := char_is (g := g) hE hB (by omega) hi hsm
          obtain ⟨k1, k2, k3⟩ := charR_ok hi
          have HON : Hid (∀ W, Calls Tryd.prog 58 #[.int .i32 ((charR s i).1 : Int)] W fun e w' => ∃ a c, e = .returned (.slice a 1 c) ∧ SpR w' W.heap.size (.slice a 1 c) [(((charR s i).1 : Int), ((charR s i).1 : Int))] ∧ Below W.heap.size W w') := fun W => (only_any _ W).mono (by rintro e w' ⟨v, he, hr, hb⟩; obtain ⟨a, c, rfl⟩ := hr.slice; exact ⟨a, c, he, hr, hb⟩)
          clear h hE hb
          generalize specB s[i] = X at *
          cases X with
          | true =>
            rw [if_pos rfl]
            clear HCH HON HTK
            go_enter Tryd.func51, Tryd.ntmps51
            go_wp2_with (first
              | (go_at_call 33; refine (HK.out _ HS.out).mono ?_; clear HK HS; rintro e w1 ⟨rfl, hl⟩; have HS : Hid (RdS w U s g w1 i) := hl; clear hl)
              | (go_at_call 33; refine (HK2.out _ HS.out).mono ?_; clear HK2 HS; rintro e w2 ⟨rfl, hl⟩; have HS : Hid (RdS w U s g w2 i) := hl; clear hl)
              | (go_at_call 33; refine (HK3.out _ HS.out).mono ?_; clear HK3 HS; rintro e w3 ⟨rfl, hl⟩; have HS : Hid (RdS w U s g w3 i) := hl; clear hl)
              | (go_at_call 33; refine (HK4.out _ HS.out).mono ?_; clear HK4 HS; rintro e w4 ⟨rfl, hl⟩; have HS : Hid (RdS w U s g w4 i) := hl; clear hl; have c0 := HS.out.rd.c0; have c1 := HS.out.rd.c1))
            go_quiet (first | (go_at_call 22; exact Calls.quiet_of_same (HSP.out _)))
            go_wp2
            go_ret2
            exact ⟨_, rfl, g, HS.out.drewN _⟩
          | false =>
            rw [if_neg (by simp)]
            generalize (charR s i).1 = C at *
            generalize (charR s i).2 = K at *
            go_enter Tryd.func51, Tryd.ntmps51
            go_wp2_with (first
              | (go_at_call 33; refine (HK.out _ HS.out).mono ?_; clear HK HS; rintro e w1 ⟨rfl, hl⟩; have HS : Hid (RdS w U s g w1 i) := hl; clear hl)
              | (go_at_call 33; refine (HK2.out _ HS.out).mono ?_; clear HK2 HS; rintro e w2 ⟨rfl, hl⟩; have HS : Hid (RdS w U s g w2 i) := hl; clear hl)
              | (go_at_call 33; refine (HK3.out _ HS.out).mono ?_; clear HK3 HS; rintro e w3 ⟨rfl, hl⟩; have HS : Hid (RdS w U s g w3 i) := hl; clear hl)
              | (go_at_call 33; refine (HK4.out _ HS.out).mono ?_; clear HK4 HS; rintro e w4 ⟨rfl, hl⟩; have HS : Hid (RdS w U s g w4 i) := hl; clear hl; have c0 := HS.out.rd.c0; have c1 := HS.out.rd.c1))
            go_quiet (first | (go_at_call 22; exact Calls.quiet_of_same (HSP.out _)))
            go_wp2_with (first
              | (go_at_call 59; refine (HCH.out _ (HS.out.drewN _)).mono ?_; clear HCH c0 c1 HS; rintro e w5 ⟨rfl, hl⟩; have HS : Hid (RdS w U s g w5 (i + K)) := hl; clear hl)
              | (go_at_call 58; refine (HON.out _).mono ?_; clear HON; rintro e w6 ⟨a, c, rfl, h1, h2⟩; have HS4 : Hid (RdS w U s g w6 (i + K)) := HS.out.below h2; have HA : Hid (SpR w6 w.heap.size (.slice a 1 c) [((C : Int), (C : Int))]) := h1.mono HS.out.size; clear h1 h2 HS)
              | (go_at_call 55; refine (HTK.out _ _ _ _).mono ?_; clear HTK; rintro e w7 ⟨rfl, rfl⟩))
            go_ret2
            exact ⟨_, rfl, _, rfl, HS4.out.made _, nd_take HA.out (cls_one (by omega) (Int.le_refl _) (by unfold maxR; omega)) HS4.out.size⟩
end Go.Proofs.YtmbkcmfcdjccoaaDoor
