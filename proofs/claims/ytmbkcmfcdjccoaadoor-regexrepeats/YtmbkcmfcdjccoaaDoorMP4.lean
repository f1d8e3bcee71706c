/- Texts that belong together. -/
import Derived.Test.YtmbkcmfcdjccoaaDoorMP1
import Derived.Test.YtmbkcmfcdjccoaaDoorSy
import Derived.Lib.QuoteLoop
import Derived.Lib.RuneCount
import Derived.Deep.RegionHeld3
/- The reader of an expression: its characters, what stands behind a backslash. -/
namespace Go.Proofs.YtmbkcmfcdjccoaaDoor
open Go.RowKit Go.Maps

/-- The library's tables lie below a block, whatever becomes of those from it on. -/
def Env8 (w : World) (B : Nat) : Prop := ∀ W, (∀ j, j < B → W.heap[j]? = w.heap[j]?) → Lib.Utf8Tabs (Tryd.decode_ren.g 3) (Tryd.decode_ren.g 4) W
theorem Env8.below {w W : World} {B : Nat} (h : Env8 w B) (hb : Below B w W) : Env8 W B := fun V hV => h V (fun j hj => (hV j hj).trans (hb.block j hj))
theorem Env8.kept {w W : World} {B U : Nat} (h : Env8 w B) (hk : Kept (fun k => k = U) w W) (hU : B ≤ U) (hB : B ≤ w.heap.size) : Env8 W B := fun V hV => h V (fun j hj => (hV j hj).trans (hk.block j (by omega) (by omega)))
theorem Env8.here {w : World} {B : Nat} (h : Env8 w B) : Lib.Utf8Tabs (Tryd.decode_ren.g 3) (Tryd.decode_ren.g 4) w := h w (fun _ _ => rfl)

theorem charR_ok {s : ByteArray} {i : Nat} (h : i < s.size) : 1 ≤ (charR s i).2 ∧ i + (charR s i).2 ≤ s.size ∧ (charR s i).1 ≤ 1114111 := by
  unfold charR Lib.decodeGoB
  have hz : (s.extract i s.size).size = s.size - i := by rw [ByteArray.size_extract]; omega
  rw [if_neg (by omega)]
  have h1 := Lib.decode_width_pos (s.extract i s.size) 0 (by omega)
  rw [Lib.decode_at] at *
  have h2 := Lib.decodeN_width_le ((s.extract i s.size).size - 0) ((s.extract i s.size).get! 0).toNat ((s.extract i s.size).get! (0 + 1)).toNat ((s.extract i s.size).get! (0 + 2)).toNat ((s.extract i s.size).get! (0 + 3)).toNat (by omega)
  have h3 := Lib.decodeN_rune_le ((s.extract i s.size).size - 0) ((s.extract i s.size).get! 0).toNat ((s.extract i s.size).get! (0 + 1)).toNat ((s.extract i s.size).get! (0 + 2)).toNat ((s.extract i s.size).get! (0 + 3)).toNat (UInt8.toNat_lt _)
  exact ⟨h1, by omega, h3⟩

set_option maxRecDepth 100000 in
set_option maxHeartbeats 2000000 in
theorem char_any (B U : Nat) (s : ByteArray) (i g : Nat) (w : World) (h : RdAt w U s i g) (hE : Env8 w B) (hi : i < s.size) (hs : s.size ≤ 1000000) :
    Calls Tryd.prog 59 #[.pointer (some ⟨U, 0, none⟩)] w fun e w' => e = .returned (.int .i32 (charR s i).1) ∧ RdAt w' U s (i + (charR s i).2) g ∧ Kept (fun k => k = U) w w' := by
  have hd := fun n => Any.utf8_DecodeRuneInString Tryd.decode (s.extract i s.size) (w.drewN n) (hE _ (fun _ _ => rfl))
  have hc : (Lib.decodeGo (s.extract i s.size)) = charR s i := rfl
  simp only [hc] at hd
  obtain ⟨k1, k2, k3⟩ := charR_ok hi
  generalize (charR s i).1 = C at *
  generalize (charR s i).2 = K at *
  have HD : Hid (∀ n, Calls Tryd.prog (Tryd.decode_ren.f 197) #[.string (s.extract i s.size)] (w.drewN n) fun e w' => e = .returned (.tuple #[.int .i32 C, .int .i64 K]) ∧ Below (w.drewN n).heap.size (w.drewN n) w') := hd
  have c0 := h.c0
  have c1 := h.c1
  have HR : Hid (RdAt w U s i g) := h
  have hiz : (i : Int) ≤ s.size := by omega
  clear h hd hc
  go_enter Tryd.func59, Tryd.ntmps59
  go_wp2
  go_region_with (go_at_call 40; refine (HD.out _).mono ?_; rintro e w1 ⟨rfl, hb⟩; have hr1 := (HR.out.drewN _).below hb HR.out.lt; have hk1 := ((Kept.refl (fun k => k = U) w).drewN _).below hb; clear hb; have d1 := hr1.c1; have f1 := hr1.f1; have HR1 : Hid (RdAt w1 U s i g ∧ Kept (fun k => k = U) w w1) := ⟨hr1, hk1⟩; clear hr1 hk1)
  all_goals
    go_wp2
    go_ret
    exact ⟨rfl, HR1.out.1.set1 (i + K) (by go_num), HR1.out.2.two (Kept.un _ U 1 _)⟩

/-- A letter behind a backslash. -/
theorem let_tab : ∀ n : Fin 256, letS (UInt8.ofNat n.val) = if n.val = 100 then some digS else if n.val = 119 then some wordS else if n.val = 115 then some blankS else if n.val = 68 then some (otherS digS 0) else if n.val = 87 then some (otherS wordS 0) else if n.val = 83 then some (otherS blankS 0) else none := by decide +kernel
theorem letS_iff (c : UInt8) : letS c = if c.toNat = 100 then some digS else if c.toNat = 119 then some wordS else if c.toNat = 115 then some blankS else if c.toNat = 68 then some (otherS digS 0) else if c.toNat = 87 then some (otherS wordS 0) else if c.toNat = 83 then some (otherS blankS 0) else none := by
  have h := let_tab ⟨c.toNat, c.toNat_lt⟩
  rw [UInt8.ofNat_toNat] at h
  exact h
/-- What lettered answers. -/
def LetP (w : World) (r : Option (List Sp)) (e : Ending) (w' : World) : Prop := match r with
  | some l => ∃ a c, e = .returned (.tuple #[.slice a l.length c, .bool true]) ∧ SpR w' w.heap.size (.slice a l.length c) l
  | none => e = .returned (.tuple #[.slice none 0 0, .bool false])
theorem SpR.slice {w : World} {base : Nat} {v : Value} {l : List Sp} (h : SpR w base v l) : ∃ a c, v = .slice a l.length c := slice_of_row h
set_option maxRecDepth 100000 in
set_option maxHeartbeats 2000000 in
theorem lettered_any (c : UInt8) (w : World) : Calls Tryd.prog 64 #[.int .u8 c.toNat] w fun e w' => LetP w (letS c) e w' ∧ Below w.heap.size w w' := by
  rw [letS_iff]
  have hc : c.toNat < 256 := c.toNat_lt
  generalize c.toNat = n at *
  have HD : Hid (∀ W, Calls Tryd.prog 71 #[] W fun e w' => ∃ a c, e = .returned (.slice a 1 c) ∧ SpR w' W.heap.size (.slice a 1 c) digS ∧ Below W.heap.size W w') := fun W => (digits_any W).mono (by rintro e w' ⟨v, he, hr, hb⟩; obtain ⟨a, c, rfl⟩ := hr.slice; exact ⟨a, c, he, hr, hb⟩)
  have HW : Hid (∀ W, Calls Tryd.prog 72 #[] W fun e w' => ∃ a c, e = .returned (.slice a 4 c) ∧ SpR w' W.heap.size (.slice a 4 c) wordS ∧ Below W.heap.size W w') := fun W => (words_any W).mono (by rintro e w' ⟨v, he, hr, hb⟩; obtain ⟨a, c, rfl⟩ := hr.slice; exact ⟨a, c, he, hr, hb⟩)
  have HB : Hid (∀ W, Calls Tryd.prog 73 #[] W fun e w' => ∃ a c, e = .returned (.slice a 3 c) ∧ SpR w' W.heap.size (.slice a 3 c) blankS ∧ Below W.heap.size W w') := fun W => (blanks_any W).mono (by rintro e w' ⟨v, he, hr, hb⟩; obtain ⟨a, c, rfl⟩ := hr.slice; exact ⟨a, c, he, hr, hb⟩)
  have HO : Hid (∀ (W : World) (B : Nat) (a : Option Addr) (k d : Nat) (l : List Sp), k = l.length → B ≤ W.heap.size → SpR W B (.slice a k d) l → In32 l → l.length ≤ 100000 → Calls Tryd.prog 63 #[.slice a k d] W fun e w' => ∃ a c, e = .returned (.slice a (otherS l 0).length c) ∧ SpR w' B (.slice a (otherS l 0).length c) (otherS l 0) ∧ Below W.heap.size W w') := fun W B a k d l hk hB hr hi hl => by
    subst hk
    exact (others_any _ l W (RowAt.of_row hr) hi hl).mono (by rintro e w' ⟨v, he, hr, hb⟩; obtain ⟨a, c, rfl⟩ := hr.slice; exact ⟨a, c, he, hr.mono hB, hb⟩)
  go_enter Tryd.func64, Tryd.ntmps64
  go_wp2_with (first
    | (go_at_call 71; refine (HD.out _).mono ?_; clear HD; rintro e w1 ⟨a, d, rfl, hr, hb⟩; have HR : Hid (SpR w1 w.heap.size (.slice a 1 d) digS ∧ Below w.heap.size w w1) := ⟨hr, hb⟩; clear hr hb)
    | (go_at_call 72; refine (HW.out _).mono ?_; clear HW; rintro e w1 ⟨a, d, rfl, hr, hb⟩; have HR : Hid (SpR w1 w.heap.size (.slice a 4 d) wordS ∧ Below w.heap.size w w1) := ⟨hr, hb⟩; clear hr hb)
    | (go_at_call 73; refine (HB.out _).mono ?_; clear HB; rintro e w1 ⟨a, d, rfl, hr, hb⟩; have HR : Hid (SpR w1 w.heap.size (.slice a 3 d) blankS ∧ Below w.heap.size w w1) := ⟨hr, hb⟩; clear hr hb)
    | (go_at_call 63; refine (HO.out _ w.heap.size _ _ _ _ (by rfl) HR.out.2.size HR.out.1 (by unfold In32 maxR; decide) (by decide)).mono ?_; clear HO; rintro e w2 ⟨a2, d2, rfl, hr, hb⟩; have HR2 : Hid (SpR w2 w.heap.size (.slice a2 _ d2) _ ∧ Below w.heap.size w w2) := ⟨hr, HR.out.2.trans (hb.mono HR.out.2.size)⟩; clear hr hb HR))
  all_goals
    go_ret2
    all_goals simp only [beq_iff_eq, beq_eq_false_iff_ne, ne_eq] at *
    all_goals repeat' split
    all_goals first
      | (exfalso; omega)
      | exact ⟨⟨_, _, rfl, HR.out.1⟩, HR.out.2⟩
      | exact ⟨⟨_, _, rfl, HR2.out.1⟩, HR2.out.2⟩
      | exact ⟨rfl, Below.refl _ _⟩
end Go.Proofs.YtmbkcmfcdjccoaaDoor

/- The reader of an expression: escapes, members of a class. -/
namespace Go.Proofs.YtmbkcmfcdjccoaaDoor
open Go.RowKit Go.Maps

/-- The reader under way. -/
structure RdS (w : World) (U : Nat) (s : ByteArray) (g : Nat) (W : World) (i : Nat) : Prop where
  rd : RdAt W U s i g
  kept : Kept (fun k => k = U) w W
section
variable {w W W' : World} {U : Nat} {s : ByteArray} {i j g : Nat}
theorem RdS.start (h : RdAt w U s i g) : RdS w U s g w i := ⟨h, Kept.refl _ _⟩
theorem RdS.to (H : RdS w U s g W i) (h : RdAt W' U s j g) (k : Kept (fun k => k = U) W W') : RdS w U s g W' j := ⟨h, H.kept.two k⟩
theorem RdS.drewN (H : RdS w U s g W i) (q : Nat) : RdS w U s g (W.drewN q) i := H.to (H.rd.drewN q) ((Kept.refl _ _).drewN q)
theorem RdS.below (H : RdS w U s g W i) (hb : Below W.heap.size W W') : RdS w U s g W' i := H.to (H.rd.below hb H.rd.lt) ((Kept.refl _ _).below hb)
theorem RdS.set1 (H : RdS w U s g W i) (j : Nat) {v : Value} (hv : v = .int .i64 j) : RdS w U s g (W.setCell ⟨U, 1, none⟩ v) j := H.to (H.rd.set1 j hv) (Kept.un _ _ _ _)
end
theorem RdS.size {w W : World} {U : Nat} {s : ByteArray} {i g : Nat} (H : RdS w U s g W i) : w.heap.size ≤ W.heap.size := H.kept.size
theorem SpR.kept {w W : World} {B U : Nat} {v : Value} {l : List Sp} (h : SpR w B v l) (hk : Kept (fun k => k = U) w W) (hU : U < B) : SpR W B v l := hk.ownsRow h (fun j hj e => by have := (h.lt j hj).1; omega)

/-- What an escape, or a member of a class, comes to. -/
def MbP (w : World) (U : Nat) (s : ByteArray) (g : Nat) (R : Rd (List Sp × Bool)) (e : Ending) (w' : World) : Prop := match R with
  | .no p => e = .returned (.tuple #[.slice none 0 0, .bool false, .bool false]) ∧ RdS w U s g w' p
  | .yes (l, alone) p => ∃ a c, e = .returned (.tuple #[.slice a l.length c, .bool alone, .bool true]) ∧ SpR w' w.heap.size (.slice a l.length c) l ∧ RdS w U s g w' p

set_option maxRecDepth 100000 in
set_option maxHeartbeats 2000000 in
theorem escape_any (U : Nat) (s : ByteArray) (i g : Nat) (w : World) (h : RdAt w U s i g) (hi : i ≤ s.size) (hs : s.size ≤ 1000000) :
    Calls Tryd.prog 57 #[.pointer (some ⟨U, 0, none⟩)] w fun e w' => MbP w U s g (escR s i) e w' := by
  have hU := h.lt
  have HS : Hid (RdS w U s g w i) := RdS.start h
  have HU : Hid (U < w.heap.size) := hU
  have c0 := h.c0
  have c1 := h.c1
  have hiz : (i : Int) ≤ s.size := by omega
  clear h
  by_cases hlt : i < s.size
  · have hltz : (i : Int) < s.size := by omega
    have hne : ((i : Int) == (s.size : Int)) = false := by simp; omega
    have hbl : s[i].toNat < 256 := s[i].toNat_lt
    have HR : Hid (escR s i = match letS s[i] with | some l => .yes (l, false) (i + 1) | none => match escB s[i] with | some x => .yes ([(x, x)], true) (i + 1) | none => .no i) := by
      show _ = _
      unfold escR
      rw [at_some hlt]
      dsimp only
      cases letS s[i] with
      | some l => rfl
      | none => cases escB s[i] <;> rfl
    have HLT : Hid (∀ W, Calls Tryd.prog 64 #[.int .u8 s[i].toNat] W fun e w' => LetP W (letS s[i]) e w' ∧ Below W.heap.size W w') := fun W => lettered_any s[i] W
    have HES : Hid (∀ W, Calls Tryd.prog 65 #[.int .u8 s[i].toNat] W fun e w' => e = .returned (.tuple #[.int .i32 ((escB s[i]).getD s[i].toNat), .bool (escB s[i]).isSome]) ∧ w' = W) := fun W => escaped_any s[i] W
    generalize letS s[i] = L at *
    generalize escB s[i] = X at *
    cases L with
    | some l =>
      have HR2 : Hid (escR s i = .yes (l, false) (i + 1)) := HR.out
      clear HR HES
      rw [HR2.out]
      go_enter Tryd.func57, Tryd.ntmps57
      go_wp2
      go_quiet (fail)
      go_wp2
      go_quiet (fail)
      go_wp2_with (go_at_call 64; refine (HLT.out _).mono ?_; clear HLT c0 c1; rintro e w1 ⟨⟨a, d, rfl, hr⟩, hb⟩; have hl := (HS.out.drewN _).below hb; clear hb HS; have HS : Hid (RdS w U s g w1 i) := hl; have HSP : Hid (SpR w1 w.heap.size (.slice a l.length d) l) := hr; clear hl hr; have c1 := HS.out.rd.c1; have f1 := HS.out.rd.f1)
      go_ret3
      exact ⟨a, d, rfl, HSP.out.kept (Kept.un _ U 1 _) HU.out, HS.out.set1 (i + 1) (by go_num)⟩
    | none =>
      have HLT2 : Hid (∀ W, Calls Tryd.prog 64 #[.int .u8 s[i].toNat] W fun e w' => e = .returned (.tuple #[.slice none 0 0, .bool false]) ∧ Below W.heap.size W w') := HLT.out
      clear HLT
      cases X with
      | some x =>
        have HR2 : Hid (escR s i = .yes ([(x, x)], true) (i + 1)) := HR.out
        have HES2 : Hid (∀ W, Calls Tryd.prog 65 #[.int .u8 s[i].toNat] W fun e w' => e = .returned (.tuple #[.int .i32 x, .bool true]) ∧ w' = W) := HES.out
        have HON : Hid (∀ W, Calls Tryd.prog 58 #[.int .i32 x] W fun e w' => ∃ a c, e = .returned (.slice a 1 c) ∧ SpR w' W.heap.size (.slice a 1 c) [(x, x)] ∧ Below W.heap.size W w') := fun W => (only_any x W).mono (by rintro e w' ⟨v, he, hr, hb⟩; obtain ⟨a, c, rfl⟩ := hr.slice; exact ⟨a, c, he, hr, hb⟩)
        clear HR HES
        rw [HR2.out]
        go_enter Tryd.func57, Tryd.ntmps57
        go_wp2
        go_quiet (fail)
        go_wp2
        go_quiet (fail)
        go_wp2_with (first
          | (go_at_call 64; refine (HLT2.out _).mono ?_; clear HLT2 c0 c1; rintro e w1 ⟨rfl, hb⟩; have hl := (HS.out.drewN _).below hb; clear hb HS; have HS : Hid (RdS w U s g w1 i) := hl; clear hl; have c1 := HS.out.rd.c1; have f1 := HS.out.rd.f1)
          | (go_at_call 65; refine (HES2.out _).mono ?_; clear HES2; rintro e w2 ⟨rfl, hw⟩; have hw := hw.symm; subst hw)
          | (go_at_call 58; refine (HON.out _).mono ?_; clear HON; rintro e w3 ⟨a, d, rfl, hr, hb⟩; have hl := (HS.out.set1 (i + 1) (v := .int .i64 ((i + 1 : Nat) : Int)) rfl); have HSP : Hid (SpR w3 w.heap.size (.slice a 1 d) [(x, x)]) := hr.mono hl.size; have HS3 : Hid (RdS w U s g w3 (i + 1)) := hl.below hb; clear hr hb hl))
        go_ret3
        exact ⟨a, d, rfl, HSP.out, HS3.out⟩
      | none =>
        have HR2 : Hid (escR s i = .no i) := HR.out
        have HES2 : Hid (∀ W, Calls Tryd.prog 65 #[.int .u8 s[i].toNat] W fun e w' => (∃ x, e = .returned (.tuple #[.int .i32 x, .bool false])) ∧ w' = W) := fun W => (HES.out W).mono (fun e w' h => ⟨⟨_, h.1⟩, h.2⟩)
        clear HR HES
        rw [HR2.out]
        go_enter Tryd.func57, Tryd.ntmps57
        go_wp2
        go_quiet (fail)
        go_wp2
        go_quiet (fail)
        go_wp2_with (first
          | (go_at_call 64; refine (HLT2.out _).mono ?_; clear HLT2 c0 c1; rintro e w1 ⟨rfl, hb⟩; have hl := (HS.out.drewN _).below hb; clear hb HS; have HS : Hid (RdS w U s g w1 i) := hl; clear hl)
          | (go_at_call 65; refine (HES2.out _).mono ?_; clear HES2; rintro e w2 ⟨⟨x, rfl⟩, hw⟩; have hw := hw.symm; subst hw))
        go_ret3
        exact ⟨rfl, HS.out⟩
  · obtain rfl : i = s.size := by omega
    have HR : Hid (escR s s.size = .no s.size) := by
      show _ = _
      unfold escR
      rw [at_none (Nat.le_refl _)]
    rw [HR.out]
    go_enter Tryd.func57, Tryd.ntmps57
    go_wp2
    go_quiet (fail)
    go_wp2
    go_ret3
    exact ⟨rfl, HS.out.drewN _⟩
end Go.Proofs.YtmbkcmfcdjccoaaDoor

/- The reader of an expression: members of a class. -/
namespace Go.Proofs.YtmbkcmfcdjccoaaDoor
open Go.RowKit Go.Maps

section
variable {w : World} {U : Nat} {s : ByteArray} {i g : Nat}
/-- skip, while the reader is under way. -/
theorem skip_no (c : UInt8) (h : seesB s i c = false) (hs : s.size ≤ 1000000) : Hid (∀ W, RdS w U s g W i → Calls Tryd.prog 33 #[.pointer (some ⟨U, 0, none⟩), .int .u8 c.toNat] W fun e w' => e = .returned (.bool false) ∧ RdS w U s g w' i) := fun W hW => by
  have h9 := skip_any U s i g c W hW.rd hs
  unfold overB at h9
  rw [h] at h9
  exact h9.mono (by rintro e w' ⟨he, hr, hk⟩; exact ⟨he, hW.to hr hk⟩)
theorem skip_yes (c : UInt8) (h : seesB s i c = true) (hs : s.size ≤ 1000000) : Hid (∀ W, RdS w U s g W i → Calls Tryd.prog 33 #[.pointer (some ⟨U, 0, none⟩), .int .u8 c.toNat] W fun e w' => e = .returned (.bool true) ∧ RdS w U s g w' (i + 1)) := fun W hW => by
  have h9 := skip_any U s i g c W hW.rd hs
  unfold overB at h9
  rw [h] at h9
  exact h9.mono (by rintro e w' ⟨he, hr, hk⟩; exact ⟨he, hW.to hr hk⟩)
theorem sees_is (c : UInt8) (hs : s.size ≤ 1000000) : Hid (∀ W, RdS w U s g W i → Calls Tryd.prog 44 #[.pointer (some ⟨U, 0, none⟩), .int .u8 c.toNat] W fun e w' => e = .returned (.bool (seesB s i c)) ∧ RdS w U s g w' i) := fun W hW => (sees_any U s i g c W hW.rd hs).mono (by rintro e w' ⟨he, q, rfl⟩; exact ⟨he, hW.drewN q⟩)
theorem char_is {B : Nat} (hE : Env8 w B) (hB : B ≤ U) (hBw : B ≤ w.heap.size) (hi : i < s.size) (hs : s.size ≤ 1000000) : Hid (∀ W, RdS w U s g W i → Calls Tryd.prog 59 #[.pointer (some ⟨U, 0, none⟩)] W fun e w' => e = .returned (.int .i32 (charR s i).1) ∧ RdS w U s g w' (i + (charR s i).2)) := fun W hW => (char_any B U s i g W hW.rd (hE.kept hW.kept hB hBw) hi hs).mono (by rintro e w' ⟨he, hr, hk⟩; exact ⟨he, hW.to hr hk⟩)
end
theorem MbP.on {w W w' : World} {U : Nat} {s : ByteArray} {i g : Nat} {R : Rd (List Sp × Bool)} {e : Ending} (H : RdS w U s g W i) (_hU : U < w.heap.size) (h : MbP W U s g R e w') : MbP w U s g R e w' := by
  cases R with
  | no p => exact ⟨h.1, H.to h.2.rd h.2.kept⟩
  | yes x p =>
    obtain ⟨l, alone⟩ := x
    obtain ⟨a, c, he, hr, hs⟩ := h
    exact ⟨a, c, he, hr.mono H.size, H.to hs.rd hs.kept⟩

set_option maxRecDepth 100000 in
set_option maxHeartbeats 2000000 in
theorem member_any (B U : Nat) (s : ByteArray) (i g : Nat) (first : Bool) (w : World) (h : RdAt w U s i g) (hE : Env8 w B) (hB : B ≤ U) (hi : i ≤ s.size) (hs : s.size ≤ 1000000) :
    Calls Tryd.prog 67 #[.pointer (some ⟨U, 0, none⟩), .bool first] w fun e w' => MbP w U s g (memR s i first) e w' := by
  have hU := h.lt
  have HS : Hid (RdS w U s g w i) := RdS.start h
  have HU : Hid (U < w.heap.size) := hU
  have c0 := h.c0
  have c1 := h.c1
  have hiz : (i : Int) ≤ s.size := by omega
  clear h
  by_cases hlt : i < s.size
  · have hne : ((i : Int) == (s.size : Int)) = false := by simp; omega
    have hR : memR s i first = if seesB s i 92 = true then escR s (i + 1)
      else if seesB s i 45 = true ∧ first = false ∧ seesB s (i + (charR s i).2) 93 = false then .no (i + (charR s i).2)
      else .yes ([((charR s i).1, (charR s i).1)], true) (i + (charR s i).2) := by
      unfold memR
      rw [if_neg (by omega)]
    rw [hR]
    clear hR
    cases h92 : seesB s i 92 with
    | true =>
      rw [if_pos rfl]
      have HK := skip_yes (w := w) (U := U) (g := g) 92 h92 hs
      have HES : Hid (∀ W, RdS w U s g W (i + 1) → Calls Tryd.prog 57 #[.pointer (some ⟨U, 0, none⟩)] W fun e w' => MbP w U s g (escR s (i + 1)) e w') := fun W hW => (escape_any U s (i + 1) g W hW.rd (by omega) hs).mono (fun e w' hP => hP.on hW HU.out)
      generalize escR s (i + 1) = R at *
      clear hE h92
      cases R with
      | no p =>
        have HES2 : Hid (∀ W, RdS w U s g W (i + 1) → Calls Tryd.prog 57 #[.pointer (some ⟨U, 0, none⟩)] W fun e w' => e = .returned (.tuple #[.slice none 0 0, .bool false, .bool false]) ∧ RdS w U s g w' p) := HES.out
        clear HES
        go_enter Tryd.func67, Tryd.ntmps67
        go_wp2
        go_quiet (fail)
        go_wp2_with (first
          | (go_at_call 33; refine (HK.out _ (HS.out.drewN _)).mono ?_; clear HK HS; rintro e w1 ⟨rfl, hl⟩; have HS : Hid (RdS w U s g w1 (i + 1)) := hl; clear hl)
          | (go_at_call 57; refine (HES2.out _ HS.out).mono ?_; clear HES2; rintro e w2 ⟨rfl, hl⟩))
        go_ret3
        exact ⟨rfl, hl⟩
      | yes x p =>
        obtain ⟨l, alone⟩ := x
        have HES2 : Hid (∀ W, RdS w U s g W (i + 1) → Calls Tryd.prog 57 #[.pointer (some ⟨U, 0, none⟩)] W fun e w' => ∃ a c, e = .returned (.tuple #[.slice a l.length c, .bool alone, .bool true]) ∧ SpR w' w.heap.size (.slice a l.length c) l ∧ RdS w U s g w' p) := HES.out
        clear HES
        go_enter Tryd.func67, Tryd.ntmps67
        go_wp2
        go_quiet (fail)
        go_wp2_with (first
          | (go_at_call 33; refine (HK.out _ (HS.out.drewN _)).mono ?_; clear HK HS; rintro e w1 ⟨rfl, hl⟩; have HS : Hid (RdS w U s g w1 (i + 1)) := hl; clear hl)
          | (go_at_call 57; refine (HES2.out _ HS.out).mono ?_; clear HES2; rintro e w2 ⟨a, d, rfl, hr, hl⟩))
        go_ret3
        exact ⟨a, d, rfl, hr, hl⟩
    | false =>
      rw [if_neg (by decide)]
      have HK := skip_no (w := w) (U := U) (g := g) 92 h92 hs
      have HD := sees_is (w := w) (U := U) (s := s) (i := i) (g := g) 45 hs
      have HC := char_is (w := w) (U := U) (g := g) hE hB (by omega) hlt hs
      have HB3 := sees_is (w := w) (U := U) (s := s) (i := i + (charR s i).2) (g := g) 93 hs
      have HON : Hid (∀ W x, Calls Tryd.prog 58 #[.int .i32 x] W fun e w' => ∃ a c, e = .returned (.slice a 1 c) ∧ SpR w' W.heap.size (.slice a 1 c) [(x, x)] ∧ Below W.heap.size W w') := fun W x => (only_any x W).mono (by rintro e w' ⟨v, he, hr, hb⟩; obtain ⟨a, c, rfl⟩ := hr.slice; exact ⟨a, c, he, hr, hb⟩)
      clear hE h92
      generalize (charR s i).1 = C at *
      generalize i + (charR s i).2 = J at *
      generalize seesB s i 45 = D at *
      generalize seesB s J 93 = E at *
      cases D <;> cases first <;> cases E
      all_goals
        (first | rw [if_pos (by decide)] | rw [if_neg (by decide)])
        go_enter Tryd.func67, Tryd.ntmps67
        go_wp2
        go_quiet (fail)
        go_wp2_with (first
          | (go_at_call 33; refine (HK.out _ (HS.out.drewN _)).mono ?_; clear HK HS; rintro e w1 ⟨rfl, hl⟩; have HS : Hid (RdS w U s g w1 i) := hl; clear hl)
          | (go_at_call 44; refine (HD.out _ HS.out).mono ?_; clear HD HS; rintro e w2 ⟨rfl, hl⟩; have HS : Hid (RdS w U s g w2 i) := hl; clear hl)
          | (go_at_call 59; refine (HC.out _ HS.out).mono ?_; clear HC HS; rintro e w3 ⟨rfl, hl⟩; have HS : Hid (RdS w U s g w3 J) := hl; clear hl)
          | (go_at_call 44; refine (HB3.out _ HS.out).mono ?_; clear HB3 HS; rintro e w4 ⟨rfl, hl⟩; have HS : Hid (RdS w U s g w4 J) := hl; clear hl)
          | (go_at_call 58; refine (HON.out _ _).mono ?_; clear HON; rintro e w5 ⟨a, d, rfl, hr, hb⟩; have HSP : Hid (SpR w5 w.heap.size (.slice a 1 d) [((C : Int), (C : Int))]) := hr.mono HS.out.size; have HS5 : Hid (RdS w U s g w5 J) := HS.out.below hb; clear hr hb))
        go_ret3
        first
          | exact ⟨a, d, rfl, HSP.out, HS5.out⟩
          | exact ⟨rfl, HS.out⟩
  · obtain rfl : i = s.size := by omega
    have hR : memR s s.size first = .no s.size := by
      unfold memR
      rw [if_pos rfl]
    rw [hR]
    clear hR
    go_enter Tryd.func67, Tryd.ntmps67
    go_wp2
    go_quiet (fail)
    go_wp2
    go_ret3
    exact ⟨rfl, HS.out.drewN _⟩
end Go.Proofs.YtmbkcmfcdjccoaaDoor
