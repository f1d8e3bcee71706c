/- The reader of an expression: its characters, what stands behind a backslash. -/
import Derived.Test.YtmbkcmfcdjccoaaDoorMP2
import Derived.Test.YtmbkcmfcdjccoaaDoorSy
import Derived.Lib.QuoteLoop
import Derived.Lib.RuneCount
import Derived.Deep.RegionHeld3
namespace Go.Proofs.YtmbkcmfcdjccoaaDoor
open Go.RowKit Go.Maps

/-- The library's tables lie below a block, whatever becomes of those from it on. -/
def Env8 (w : World) (B : Nat) : Prop := ∀ W, (∀ j, j < B → W.heap[j]? = w.heap[j]?) → Lib.Utf8Tabs (Tryd.decode_ren.g 3) (Tryd.decode_ren.g 4) W
theorem Env8.below {w W : World} {B : Nat} (h : Env8 w B) (hb : Below B w W) : Env8 W B := fun V hV => h V (fun j hj => (hV j hj).trans (hb.block j hj))
theorem Env8.kept {w W : World} {B U : Nat} (h : Env8 w B) (hk : Kept (fun k => k = U) w W) (hU : B ≤ U) (hB : B ≤ w.heap.size) : Env8 W B := fun V hV => h V (fun j hj => (hV j hj).trans (hk.block j (by omega) (by omega)))
theorem Env8.here {w : World} {B : Nat} (h : Env8 w B) : Lib.Utf8Tabs (Tryd.decode_ren.g 3) (Tryd.decode_ren.g 4) w := h w (fun _ _ => rfl)

theorem charR_ok {s : ByteArray} {i : Nat} (h : i < s.size) : 1 ≤ (charR s i).2 ∧ i + (charR s i).2 ≤ s.size ∧ (charR s i).1 ≤ 1114111 := by
  unfold charR Lib.decodeGoB
  have hz : (s.extract i s.size).size = s.size - i := by rw [ByteArray.size_extract]; omega
  rw [if_neg (by omega)]
  have h1 := Lib.decode_width_pos (s.extract i s.size) 0 (by omega)
  rw [Lib.decode_at] at *
  have h2 := Lib.decodeN_width_le ((s.extract i s.size).size - 0) ((s.extract i s.size).get! 0).toNat ((s.extract i s.size).get! (0 + 1)).toNat ((s.extract i s.size).get! (0 + 2)).toNat ((s.extract i s.size).get! (0 + 3)).toNat (by omega)
  have h3 := Lib.decodeN_rune_le ((s.extract i s.size).size - 0) ((s.extract i s.size).get! 0).toNat ((s.extract i s.size).get! (0 + 1)).toNat ((s.extract i s.size).get! (0 + 2)).toNat ((s.extract i s.size).get! (0 + 3)).toNat (UInt8.toNat_lt _)
  exact ⟨h1, by omega, h3⟩

set_option maxRecDepth 100000 in
set_option maxHeartbeats 2000000 in
theorem char_any (B U : Nat) (s : ByteArray) (i g : Nat) (w : World) (h : RdAt w U s i g) (hE : Env8 w B) (hi : i < s.size) (hs : s.size ≤ 1000000) :
    Calls Tryd.prog 59 #[.pointer (some ⟨U, 0, none⟩)] w fun e w' => e = .returned (.int .i32 (charR s i).1) ∧ RdAt w' U s (i + (charR s i).2) g ∧ Kept (fun k => k = U) w w' := by
  have hd := fun n => Any.utf8_DecodeRuneInString Tryd.decode (s.extract i s.size) (w.drewN n) (hE _ (fun _ _ => rfl))
  have hc : (Lib.decodeGo (s.extract i s.size)) = charR s i := rfl
  simp only [hc] at hd
  obtain ⟨k1, k2, k3⟩ := charR_ok hi
  generalize (charR s i).1 = C at *
  generalize (charR s i).2 = K at *
  have HD : Hid (∀ n, Calls Tryd.prog (Tryd.decode_ren.f 197) #[.string (s.extract i s.size)] (w.drewN n) fun e w' => e = .returned (.tuple #[.int .i32 C, .int .i64 K]) ∧ Below (w.drewN n).heap.size (w.drewN n) w') := hd
  have c0 := h.c0
  have c1 := h.c1
  have HR : Hid (RdAt w U s i g) := h
  have hiz : (i : Int) ≤ s.size := by omega
  clear h hd hc
  go_enter Tryd.func59, Tryd.ntmps59
  go_wp2
  go_region_with (go_at_call 40; refine (HD.out _).mono ?_; rintro e w1 ⟨rfl, hb⟩; have hr1 := (HR.out.drewN _).below hb HR.out.lt; have hk1 := ((Kept.refl (fun k => k = U) w).drewN _).below hb; clear hb; have d1 := hr1.c1; have f1 := hr1.f1; have HR1 : Hid (RdAt w1 U s i g ∧ Kept (fun k => k = U) w w1) := ⟨hr1, hk1⟩; clear hr1 hk1)
  all_goals
    go_wp2
    go_ret
    exact ⟨rfl, HR1.out.1.set1 (i + K) (by go_num), HR1.out.2.two (Kept.un _ U 1 _)⟩

/-- A letter behind a backslash. -/
theorem let_tab : ∀ n : Fin 256, letS (UInt8.ofNat n.val) = if n.val = 100 then some digS else if n.val = 119 then some wordS else if n.val = 115 then some blankS else if n.val = 68 then some (otherS digS 0) else if n.val = 87 then some (otherS wordS 0) else if n.val = 83 then some (otherS blankS 0) else none := by decide +kernel
theorem letS_iff (c : UInt8) : letS c = if c.toNat = 100 then some digS else if c.toNat = 119 then some wordS else if c.toNat = 115 then some blankS else if c.toNat = 68 then some (otherS digS 0) else if c.toNat = 87 then some (otherS wordS 0) else if c.toNat = 83 then some (otherS blankS 0) else none := by
  have h := let_tab ⟨c.toNat, c.toNat_lt⟩
  rw [UInt8.ofNat_toNat] at h
  exact h
/-- What lettered answers. -/
def LetP (w : World) (r : Option (List Sp)) (e : Ending) (w' : World) : Prop := match r with
  | some l => ∃ a c, e = .returned (.tuple #[.slice a l.length c, .bool true]) ∧ SpR w' w.heap.size (.slice a l.length c) l
  | none => e = .returned (.tuple #[.slice none 0 0, .bool false])
theorem SpR.slice {w : World} {base : Nat} {v : Value} {l : List Sp} (h : SpR w base v l) : ∃ a c, v = .slice a l.length c := slice_of_row h
set_option maxRecDepth 100000 in
set_option maxHeartbeats 2000000 in
theorem lettered_any (c : UInt8) (w : World) : Calls Tryd.prog 64 #[.int .u8 c.toNat] w fun e w' => LetP w (letS c) e w' ∧ Below w.heap.size w w' := by
  rw [letS_iff]
  have hc : c.toNat < 256 := c.toNat_lt
  generalize c.toNat = n at *
  have HD : Hid (∀ W, Calls Tryd.prog 71 #[] W fun e w' => ∃ a c, e = .returned (.slice a 1 c) ∧ SpR w' W.heap.size (.slice a 1 c) digS ∧ Below W.heap.size W w') := fun W => (digits_any W).mono (by rintro e w' ⟨v, he, hr, hb⟩; obtain ⟨a, c, rfl⟩ := hr.slice; exact ⟨a, c, he, hr, hb⟩)
  have HW : Hid (∀ W, Calls Tryd.prog 72 #[] W fun e w' => ∃ a c, e = .returned (.slice a 4 c) ∧ SpR w' W.heap.size (.slice a 4 c) wordS ∧ Below W.heap.size W w') := fun W => (words_any W).mono (by rintro e w' ⟨v, he, hr, hb⟩; obtain ⟨a, c, rfl⟩ := hr.slice; exact ⟨a, c, he, hr, hb⟩)
  have HB : Hid (∀ W, Calls Tryd.prog 73 #[] W fun e w' => ∃ a c, e = .returned (.slice a 3 c) ∧ SpR w' W.heap.size (.slice a 3 c) blankS ∧ Below W.heap.size W w') := fun W => (blanks_any W).mono (by rintro e w' ⟨v, he, hr, hb⟩; obtain ⟨a, c, rfl⟩ := hr.slice; exact ⟨a, c, he, hr, hb⟩)
  have HO : Hid (∀ (W : World) (B : Nat) (a : Option Addr) (k d : Nat) (l : List Sp), k = l.length → B ≤ W.heap.size → SpR W B (.slice a k d) l → In32 l → l.length ≤ 100000 → Calls Tryd.prog 63 #[.slice a k d] W fun e w' => ∃ a c, e = .returned (.slice a (otherS l 0).length c) ∧ SpR w' B (.slice a (otherS l 0).length c) (otherS l 0) ∧ Below W.heap.size W w') := fun W B a k d l hk hB hr hi hl => by
    subst hk
    exact (others_any _ l W (RowAt.of_row hr) hi hl).mono (by rintro e w' ⟨v, he, hr, hb⟩; obtain ⟨a, c, rfl⟩ := hr.slice; exact ⟨a, c, he, hr.mono hB, hb⟩)
  go_enter Tryd.func64, Tryd.ntmps64
  go_wp2_with (first
    | (go_at_call 71; refine (HD.out _).mono ?_; clear HD; rintro e w1 ⟨a, d, rfl, hr, hb⟩; have HR : Hid (SpR w1 w.heap.size (.slice a 1 d) digS ∧ Below w.heap.size w w1) := ⟨hr, hb⟩; clear hr hb)
    | (go_at_call 72; refine (HW.out _).mono ?_; clear HW; rintro e w1 ⟨a, d, rfl, hr, hb⟩; have HR : Hid (SpR w1 w.heap.size (.slice a 4 d) wordS ∧ Below w.heap.size w w1) := ⟨hr, hb⟩; clear hr hb)
    | (go_at_call 73; refine (HB.out _).mono ?_; clear HB; rintro e w1 ⟨a, d, rfl, hr, hb⟩; have HR : Hid (SpR w1 w.heap.size (.slice a 3 d) blankS ∧ Below w.heap.size w w1) := ⟨hr, hb⟩; clear hr hb)
    | (go_at_call 63; refine (HO.out _ w.heap.size _ _ _ _ (by rfl) HR.out.2.size HR.out.1 (by unfold In32 maxR; decide) (by decide)).mono ?_; clear HO; rintro e w2 ⟨a2, d2, rfl, hr, hb⟩; have HR2 : Hid (SpR w2 w.heap.size (.slice a2 _ d2) _ ∧ Below w.heap.size w w2) := ⟨hr, HR.out.2.trans (hb.mono HR.out.2.size)⟩; clear hr hb HR))
  all_goals
    go_ret2
    all_goals simp only [beq_iff_eq, beq_eq_false_iff_ne, ne_eq] at *
    all_goals repeat' split
    all_goals first
      | (exfalso; omega)
      | exact ⟨⟨_, _, rfl, HR.out.1⟩, HR.out.2⟩
      | exact ⟨⟨_, _, rfl, HR2.out.1⟩, HR2.out.2⟩
      | exact ⟨rfl, Below.refl _ _⟩
end Go.Proofs.YtmbkcmfcdjccoaaDoor
