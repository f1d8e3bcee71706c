/- Texts that belong together. -/
import Derived.Test.YtmbkcmfcdjccoaaDoorMP4
/- The reader of an expression: escapes, members of a class. -/
namespace Go.Proofs.YtmbkcmfcdjccoaaDoor
open Go.RowKit Go.Maps

/-- The reader under way. -/
structure RdS (w : World) (U : Nat) (s : ByteArray) (g : Nat) (W : World) (i : Nat) : Prop where
  rd : RdAt W U s i g
  kept : Kept (fun k => k = U) w W
section
variable {w W W' : World} {U : Nat} {s : ByteArray} {i j g : Nat}
theorem RdS.start (h : RdAt w U s i g) : RdS w U s g w i := ⟨h, Kept.refl _ _⟩
theorem RdS.to (H : RdS w U s g W i) (h : RdAt W' U s j g) (k : Kept (fun k => k = U) W W') : RdS w U s g W' j := ⟨h, H.kept.two k⟩
theorem RdS.drewN (H : RdS w U s g W i) (q : Nat) : RdS w U s g (W.drewN q) i := H.to (H.rd.drewN q) ((Kept.refl _ _).drewN q)
theorem RdS.below (H : RdS w U s g W i) (hb : Below W.heap.size W W') : RdS w U s g W' i := H.to (H.rd.below hb H.rd.lt) ((Kept.refl _ _).below hb)
theorem RdS.set1 (H : RdS w U s g W i) (j : Nat) {v : Value} (hv : v = .int .i64 j) : RdS w U s g (W.setCell ⟨U, 1, none⟩ v) j := H.to (H.rd.set1 j hv) (Kept.un _ _ _ _)
end
theorem RdS.size {w W : World} {U : Nat} {s : ByteArray} {i g : Nat} (H : RdS w U s g W i) : w.heap.size ≤ W.heap.size := H.kept.size
theorem SpR.kept {w W : World} {B U : Nat} {v : Value} {l : List Sp} (h : SpR w B v l) (hk : Kept (fun k => k = U) w W) (hU : U < B) : SpR W B v l := hk.ownsRow h (fun j hj e => by have := (h.lt j hj).1; omega)

/-- What an escape, or a member of a class, comes to. -/
def MbP (w : World) (U : Nat) (s : ByteArray) (g : Nat) (R : Rd (List Sp × Bool)) (e : Ending) (w' : World) : Prop := match R with
  | .no p => e = .returned (.tuple #[.slice none 0 0, .bool false, .bool false]) ∧ RdS w U s g w' p
  | .yes (l, alone) p => ∃ a c, e = .returned (.tuple #[.slice a l.length c, .bool alone, .bool true]) ∧ SpR w' w.heap.size (.slice a l.length c) l ∧ RdS w U s g w' p

set_option maxRecDepth 100000 in
set_option maxHeartbeats 2000000 in
theorem escape_any (U : Nat) (s : ByteArray) (i g : Nat) (w : World) (h : RdAt w U s i g) (hi : i ≤ s.size) (hs : s.size ≤ 1000000) :
    Calls Tryd.prog 57 #[.pointer (some ⟨U, 0, none⟩)] w fun e w' => MbP w U s g (escR s i) e w' := by
  have hU := h.lt
  have HS : Hid (RdS w U s g w i) := RdS.start h
  have HU : Hid (U < w.heap.size) := hU
  have c0 := h.c0
  have c1 := h.c1
  have hiz : (i : Int) ≤ s.size := by omega
  clear h
  by_cases hlt : i < s.size
  · have hltz : (i : Int) < s.size := by omega
    have hne : ((i : Int) == (s.size : Int)) = false := by simp; omega
    have hbl : s[i].toNat < 256 := s[i].toNat_lt
    have HR : Hid (escR s i = match letS s[i] with | some l => .yes (l, false) (i + 1) | none => match escB s[i] with | some x => .yes ([(x, x)], true) (i + 1) | none => .no i) := by
      show _ = _
      unfold escR
      rw [at_some hlt]
      dsimp only
      cases letS s[i] with
      | some l => rfl
      | none => cases escB s[i] <;> rfl
    have HLT : Hid (∀ W, Calls Tryd.prog 64 #[.int .u8 s[i].toNat] W fun e w' => LetP W (letS s[i]) e w' ∧ Below W.heap.size W w') := fun W => lettered_any s[i] W
    have HES : Hid (∀ W, Calls Tryd.prog 65 #[.int .u8 s[i].toNat] W fun e w' => e = .returned (.tuple #[.int .i32 ((escB s[i]).getD s[i].toNat), .bool (escB s[i]).isSome]) ∧ w' = W) := fun W => escaped_any s[i] W
    generalize letS s[i] = L at *
    generalize escB s[i] = X at *
    cases L with
    | some l =>
      have HR2 : Hid (escR s i = .yes (l, false) (i + 1)) := HR.out
      clear HR HES
      rw [HR2.out]
      go_enter Tryd.func57, Tryd.ntmps57
      go_wp2
      go_quiet (fail)
      go_wp2
      go_quiet (fail)
      go_wp2_with (go_at_call 64; refine (HLT.out _).mono ?_; clear HLT c0 c1; rintro e w1 ⟨⟨a, d, rfl, hr⟩, hb⟩; have hl := (HS.out.drewN _).below hb; clear hb HS; have HS : Hid (RdS w U s g w1 i) := hl; have HSP : Hid (SpR w1 w.heap.size (.slice a l.length d) l) := hr; clear hl hr; have c1 := HS.out.rd.c1; have f1 := HS.out.rd.f1)
      go_ret3
      exact ⟨a, d, rfl, HSP.out.kept (Kept.un _ U 1 _) HU.out, HS.out.set1 (i + 1) (by go_num)⟩
    | none =>
      have HLT2 : Hid (∀ W, Calls Tryd.prog 64 #[.int .u8 s[i].toNat] W fun e w' => e = .returned (.tuple #[.slice none 0 0, .bool false]) ∧ Below W.heap.size W w') := HLT.out
      clear HLT
      cases X with
      | some x =>
        have HR2 : Hid (escR s i = .yes ([(x, x)], true) (i + 1)) := HR.out
        have HES2 : Hid (∀ W, Calls Tryd.prog 65 #[.int .u8 s[i].toNat] W fun e w' => e = .returned (.tuple #[.int .i32 x, .bool true]) ∧ w' = W) := HES.out
        have HON : Hid (∀ W, Calls Tryd.prog 58 #[.int .i32 x] W fun e w' => ∃ a c, e = .returned (.slice a 1 c) ∧ SpR w' W.heap.size (.slice a 1 c) [(x, x)] ∧ Below W.heap.size W w') := fun W => (only_any x W).mono (by rintro e w' ⟨v, he, hr, hb⟩; obtain ⟨a, c, rfl⟩ := hr.slice; exact ⟨a, c, he, hr, hb⟩)
        clear HR HES
        rw [HR2.out]
        go_enter Tryd.func57, Tryd.ntmps57
        go_wp2
        go_quiet (fail)
        go_wp2
        go_quiet (fail)
        go_wp2_with (first
          | (go_at_call 64; refine (HLT2.out _).mono ?_; clear HLT2 c0 c1; rintro e w1 ⟨rfl, hb⟩; have hl := (HS.out.drewN _).below hb; clear hb HS; have HS : Hid (RdS w U s g w1 i) := hl; clear hl; have c1 := HS.out.rd.c1; have f1 := HS.out.rd.f1)
          | (go_at_call 65; refine (HES2.out _).mono ?_; clear HES2; rintro e w2 ⟨rfl, hw⟩; have hw := hw.symm; subst hw)
          | (go_at_call 58; refine (HON.out _).mono ?_; clear HON; rintro e w3 ⟨a, d, rfl, hr, hb⟩; have hl := (HS.out.set1 (i + 1) (v := .int .i64 ((i + 1 : Nat) : Int)) rfl); have HSP : Hid (SpR w3 w.heap.size (.slice a 1 d) [(x, x)]) := hr.mono hl.size; have HS3 : Hid (RdS w U s g w3 (i + 1)) := hl.below hb; clear hr hb hl))
        go_ret3
        exact ⟨a, d, rfl, HSP.out, HS3.out⟩
      | none =>
        have HR2 : Hid (escR s i = .no i) := HR.out
        have HES2 : Hid (∀ W, Calls Tryd.prog 65 #[.int .u8 s[i].toNat] W fun e w' => (∃ x, e = .returned (.tuple #[.int .i32 x, .bool false])) ∧ w' = W) := fun W => (HES.out W).mono (fun e w' h => ⟨⟨_, h.1⟩, h.2⟩)
        clear HR HES
        rw [HR2.out]
        go_enter Tryd.func57, Tryd.ntmps57
        go_wp2
        go_quiet (fail)
        go_wp2
        go_quiet (fail)
        go_wp2_with (first
          | (go_at_call 64; refine (HLT2.out _).mono ?_; clear HLT2 c0 c1; rintro e w1 ⟨rfl, hb⟩; have hl := (HS.out.drewN _).below hb; clear hb HS; have HS : Hid (RdS w U s g w1 i) := hl; clear hl)
          | (go_at_call 65; refine (HES2.out _).mono ?_; clear HES2; rintro e w2 ⟨⟨x, rfl⟩, hw⟩; have hw := hw.symm; subst hw))
        go_ret3
        exact ⟨rfl, HS.out⟩
  · obtain rfl : i = s.size := by omega
    have HR : Hid (escR s s.size = .no s.size) := by
      show _ = _
      unfold escR
      rw [at_none (Nat.le_refl _)]
    rw [HR.out]
    go_enter Tryd.func57, Tryd.ntmps57
    go_wp2
    go_quiet (fail)
    go_wp2
    go_ret3
    exact ⟨rfl, HS.out.drewN _⟩
end Go.Proofs.YtmbkcmfcdjccoaaDoor

/- The reader of an expression: members of a class. -/
namespace Go.Proofs.YtmbkcmfcdjccoaaDoor
open Go.RowKit Go.Maps

section
variable {w : World} {U : Nat} {s : ByteArray} {i g : Nat}
/-- skip, while the reader is under way. -/
theorem skip_no (c : UInt8) (h : seesB s i c = false) (hs : s.size ≤ 1000000) : Hid (∀ W, RdS w U s g W i → Calls Tryd.prog 33 #[.pointer (some ⟨U, 0, none⟩), .int .u8 c.toNat] W fun e w' => e = .returned (.bool false) ∧ RdS w U s g w' i) := fun W hW => by
  have h9 := skip_any U s i g c W hW.rd hs
  unfold overB at h9
  rw [h] at h9
  exact h9.mono (by rintro e w' ⟨he, hr, hk⟩; exact ⟨he, hW.to hr hk⟩)
theorem skip_yes (c : UInt8) (h : seesB s i c = true) (hs : s.size ≤ 1000000) : Hid (∀ W, RdS w U s g W i → Calls Tryd.prog 33 #[.pointer (some ⟨U, 0, none⟩), .int .u8 c.toNat] W fun e w' => e = .returned (.bool true) ∧ RdS w U s g w' (i + 1)) := fun W hW => by
  have h9 := skip_any U s i g c W hW.rd hs
  unfold overB at h9
  rw [h] at h9
  exact h9.mono (by rintro e w' ⟨he, hr, hk⟩; exact ⟨he, hW.to hr hk⟩)
theorem sees_is (c : UInt8) (hs : s.size ≤ 1000000) : Hid (∀ W, RdS w U s g W i → Calls Tryd.prog 44 #[.pointer (some ⟨U, 0, none⟩), .int .u8 c.toNat] W fun e w' => e = .returned (.bool (seesB s i c)) ∧ RdS w U s g w' i) := fun W hW => (sees_any U s i g c W hW.rd hs).mono (by rintro e w' ⟨he, q, rfl⟩; exact ⟨he, hW.drewN q⟩)
theorem char_is {B : Nat} (hE : Env8 w B) (hB : B ≤ U) (hBw : B ≤ w.heap.size) (hi : i < s.size) (hs : s.size ≤ 1000000) : Hid (∀ W, RdS w U s g W i → Calls Tryd.prog 59 #[.pointer (some ⟨U, 0, none⟩)] W fun e w' => e = .returned (.int .i32 (charR s i).1) ∧ RdS w U s g w' (i + (charR s i).2)) := fun W hW => (char_any B U s i g W hW.rd (hE.kept hW.kept hB hBw) hi hs).mono (by rintro e w' ⟨he, hr, hk⟩; exact ⟨he, hW.to hr hk⟩)
end
theorem MbP.on {w W w' : World} {U : Nat} {s : ByteArray} {i g : Nat} {R : Rd (List Sp × Bool)} {e : Ending} (H : RdS w U s g W i) (_hU : U < w.heap.size) (h : MbP W U s g R e w') : MbP w U s g R e w' := by
  cases R with
  | no p => exact ⟨h.1, H.to h.2.rd h.2.kept⟩
  | yes x p =>
    obtain ⟨l, alone⟩ := x
    obtain ⟨a, c, he, hr, hs⟩ := h
    exact ⟨a, c, he, hr.mono H.size, H.to hs.rd hs.kept⟩

set_option maxRecDepth 100000 in
set_option maxHeartbeats 2000000 in
theorem member_any (B U : Nat) (s : ByteArray) (i g : Nat) (first : Bool) (w : World) (h : RdAt w U s i g) (hE : Env8 w B) (hB : B ≤ U) (hi : i ≤ s.size) (hs : s.size ≤ 1000000) :
    Calls Tryd.prog 67 #[.pointer (some ⟨U, 0, none⟩), .bool first] w fun e w' => MbP w U s g (memR s i first) e w' := by
  have hU := h.lt
  have HS : Hid (RdS w U s g w i) := RdS.start h
  have HU : Hid (U < w.heap.size) := hU
  have c0 := h.c0
  have c1 := h.c1
  have hiz : (i : Int) ≤ s.size := by omega
  clear h
  by_cases hlt : i < s.size
  · have hne : ((i : Int) == (s.size : Int)) = false := by simp; omega
    have hR : memR s i first = if seesB s i 92 = true then escR s (i + 1)
      else if seesB s i 45 = true ∧ first = false ∧ seesB s (i + (charR s i).2) 93 = false then .no (i + (charR s i).2)
      else .yes ([((charR s i).1, (charR s i).1)], true) (i + (charR s i).2) := by
      unfold memR
      rw [if_neg (by omega)]
    rw [hR]
    clear hR
    cases h92 : seesB s i 92 with
    | true =>
      rw [if_pos rfl]
      have HK := skip_yes (w := w) (U := U) (g := g) 92 h92 hs
      have HES : Hid (∀ W, RdS w U s g W (i + 1) → Calls Tryd.prog 57 #[.pointer (some ⟨U, 0, none⟩)] W fun e w' => MbP w U s g (escR s (i + 1)) e w') := fun W hW => (escape_any U s (i + 1) g W hW.rd (by omega) hs).mono (fun e w' hP => hP.on hW HU.out)
      generalize escR s (i + 1) = R at *
      clear hE h92
      cases R with
      | no p =>
        have HES2 : Hid (∀ W, RdS w U s g W (i + 1) → Calls Tryd.prog 57 #[.pointer (some ⟨U, 0, none⟩)] W fun e w' => e = .returned (.tuple #[.slice none 0 0, .bool false, .bool false]) ∧ RdS w U s g w' p) := HES.out
        clear HES
        go_enter Tryd.func67, Tryd.ntmps67
        go_wp2
        go_quiet (fail)
        go_wp2_with (first
          | (go_at_call 33; refine (HK.out _ (HS.out.drewN _)).mono ?_; clear HK HS; rintro e w1 ⟨rfl, hl⟩; have HS : Hid (RdS w U s g w1 (i + 1)) := hl; clear hl)
          | (go_at_call 57; refine (HES2.out _ HS.out).mono ?_; clear HES2; rintro e w2 ⟨rfl, hl⟩))
        go_ret3
        exact ⟨rfl, hl⟩
      | yes x p =>
        obtain ⟨l, alone⟩ := x
        have HES2 : Hid (∀ W, RdS w U s g W (i + 1) → Calls Tryd.prog 57 #[.pointer (some ⟨U, 0, none⟩)] W fun e w' => ∃ a c, e = .returned (.tuple #[.slice a l.length c, .bool alone, .bool true]) ∧ SpR w' w.heap.size (.slice a l.length c) l ∧ RdS w U s g w' p) := HES.out
        clear HES
        go_enter Tryd.func67, Tryd.ntmps67
        go_wp2
        go_quiet (fail)
        go_wp2_with (first
          | (go_at_call 33; refine (HK.out _ (HS.out.drewN _)).mono ?_; clear HK HS; rintro e w1 ⟨rfl, hl⟩; have HS : Hid (RdS w U s g w1 (i + 1)) := hl; clear hl)
          | (go_at_call 57; refine (HES2.out _ HS.out).mono ?_; clear HES2; rintro e w2 ⟨a, d, rfl, hr, hl⟩))
        go_ret3
        exact ⟨a, d, rfl, hr, hl⟩
    | false =>
      rw [if_neg (by decide)]
      have HK := skip_no (w := w) (U := U) (g := g) 92 h92 hs
      have HD := sees_is (w := w) (U := U) (s := s) (i := i) (g := g) 45 hs
      have HC := char_is (w := w) (U := U) (g := g) hE hB (by omega) hlt hs
      have HB3 := sees_is (w := w) (U := U) (s := s) (i := i + (charR s i).2) (g := g) 93 hs
      have HON : Hid (∀ W x, Calls Tryd.prog 58 #[.int .i32 x] W fun e w' => ∃ a c, e = .returned (.slice a 1 c) ∧ SpR w' W.heap.size (.slice a 1 c) [(x, x)] ∧ Below W.heap.size W w') := fun W x => (only_any x W).mono (by rintro e w' ⟨v, he, hr, hb⟩; obtain ⟨a, c, rfl⟩ := hr.slice; exact ⟨a, c, he, hr, hb⟩)
      clear hE h92
      generalize (charR s i).1 = C at *
      generalize i + (charR s i).2 = J at *
      generalize seesB s i 45 = D at *
      generalize seesB s J 93 = E at *
      cases D <;> cases first <;> cases E
      all_goals
        (first | rw [if_pos (by decide)] | rw [if_neg (by decide)])
        go_enter Tryd.func67, Tryd.ntmps67
        go_wp2
        go_quiet (fail)
        go_wp2_with (first
          | (go_at_call 33; refine (HK.out _ (HS.out.drewN _)).mono ?_; clear HK HS; rintro e w1 ⟨rfl, hl⟩; have HS : Hid (RdS w U s g w1 i) := hl; clear hl)
          | (go_at_call 44; refine (HD.out _ HS.out).mono ?_; clear HD HS; rintro e w2 ⟨rfl, hl⟩; have HS : Hid (RdS w U s g w2 i) := hl; clear hl)
          | (go_at_call 59; refine (HC.out _ HS.out).mono ?_; clear HC HS; rintro e w3 ⟨rfl, hl⟩; have HS : Hid (RdS w U s g w3 J) := hl; clear hl)
          | (go_at_call 44; refine (HB3.out _ HS.out).mono ?_; clear HB3 HS; rintro e w4 ⟨rfl, hl⟩; have HS : Hid (RdS w U s g w4 J) := hl; clear hl)
          | (go_at_call 58; refine (HON.out _ _).mono ?_; clear HON; rintro e w5 ⟨a, d, rfl, hr, hb⟩; have HSP : Hid (SpR w5 w.heap.size (.slice a 1 d) [((C : Int), (C : Int))]) := hr.mono HS.out.size; have HS5 : Hid (RdS w U s g w5 J) := HS.out.below hb; clear hr hb))
        go_ret3
        first
          | exact ⟨a, d, rfl, HSP.out, HS5.out⟩
          | exact ⟨rfl, HS.out⟩
  · obtain rfl : i = s.size := by omega
    have hR : memR s s.size first = .no s.size := by
      unfold memR
      rw [if_pos rfl]
    rw [hR]
    clear hR
    go_enter Tryd.func67, Tryd.ntmps67
    go_wp2
    go_quiet (fail)
    go_wp2
    go_ret3
    exact ⟨rfl, HS.out.drewN _⟩
end Go.Proofs.YtmbkcmfcdjccoaaDoor
