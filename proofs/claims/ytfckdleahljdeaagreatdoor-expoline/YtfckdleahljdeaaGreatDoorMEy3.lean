/- Texts that belong together. -/
import Derived.Test.YtfckdleahljdeaaGreatDoorMEx6
import Derived.Test.YtfckdleahljdeaaGreatDoorMEy4
import Derived.Test.YtfckdleahljdeaaGreatDoorMFz5
import Derived.Test.YtfckdleahljdeaaGreatDoorMFz6
import Derived.Test.YtfckdleahljdeaaGreatDoorMLl
import Derived.Lib.ConvBytes
/- Escape: a label's value, written so that its end can be told. -/
namespace Go.Proofs.YtfckdleahljdeaaGreatDoor
open Go.RowKit Go.Maps

/-- How a byte is written. -/
def escX (c : UInt8) : List UInt8 := if c = 34 ∨ c = 92 then [92, c] else if c = 10 then [92, 110] else [c]
/-- A value, written. -/
def escL (l : List UInt8) : List UInt8 := l.flatMap escX
theorem escX_length (c : UInt8) : (escX c).length ≤ 2 := by
  unfold escX
  split
  · simp
  · split <;> simp
theorem escL_length (s : List UInt8) : (escL s).length ≤ 2 * s.length := by
  unfold escL
  induction s with
  | nil => simp
  | cons c t ih =>
    have := escX_length c
    rw [List.flatMap_cons, List.length_append, List.length_cons]
    omega
theorem escL_succ (s : List UInt8) (k : Nat) (hk : k < s.length) : escL (s.take (k + 1)) = escL (s.take k) ++ escX s[k] := by
  unfold escL
  rw [List.take_succ_eq_append_getElem hk, List.flatMap_append]
  simp
theorem escX_quote {c : UInt8} (h : c = 34 ∨ c = 92) : escX c = [92, c] := by unfold escX; rw [if_pos h]
theorem escX_line {c : UInt8} (h : c = 10) : escX c = [92, 110] := by subst h; decide
theorem escX_plain {c : UInt8} (h1 : ¬ (c = 34 ∨ c = 92)) (h2 : ¬ c = 10) : escX c = [c] := by unfold escX; rw [if_neg h1, if_neg h2]

set_option maxRecDepth 100000 in
set_option maxHeartbeats 4000000 in
theorem escape_any (s : ByteArray) (w : World) (hs : s.size ≤ 100000000) :
    Calls Tryz.prog 15 #[.string s] w fun e w' => e = .returned (.string ⟨(escL s.data.toList).toArray⟩) ∧ Below w.heap.size w w' := by
  have HB1 : Hid (Nu.Bd w.heap.size w.heap.size [] (w.alloc (.cells #[.pointer none, .slice none 0 0] 67 (0, 0)))) := Nu.Bd.fresh w
  have HS2 : Hid (w.heap.size ≤ (w.alloc (.cells #[.pointer none, .slice none 0 0] 67 (0, 0))).heap.size) := by show _ ≤ _; simp
  have HK2 : Hid (Below w.heap.size w (w.alloc (.cells #[.pointer none, .slice none 0 0] 67 (0, 0)))) := (Below.refl _ _).alloc (Nat.le_refl _) _
  obtain ⟨B, hBB⟩ : ∃ B, B = w.heap.size := ⟨_, rfl⟩
  go_enter Tryz.func15, Tryz.ntmps15
  go_wp2
  go_loopw [8] (fun i wr => ∃ k : Nat, k ≤ s.size ∧ i = .int .i64 k ∧ Hid (Nu.Bd w.heap.size w.heap.size (escL (s.data.toList.take k)) wr) ∧ Hid (Below w.heap.size w wr)) (fun i _ => s.size - (intOf i).toNat)
  case atStart => exact ⟨0, Nat.zero_le _, rfl, HB1, HK2⟩
  case round =>
    clear HB1 HK2 HS2
    obtain ⟨k, hk, rfl, hBd, hBK⟩ := hrel
    have hle : (escL (s.data.toList.take k)).length ≤ 1000000000 - 4 := by
      have h1 := escL_length (s.data.toList.take k)
      have h2 : (s.data.toList.take k).length = k := by rw [List.length_take, Array.length_toList]; exact Nat.min_eq_left hk
      rw [h2] at h1
      omega
    have hsz : w.heap.size ≤ wr.heap.size := hBK.out.size
    by_cases hlt : k < s.size
    · have hlt' : k < s.data.toList.length := by rw [Array.length_toList]; exact hlt
      have HE : Hid (escL (s.data.toList.take (k + 1)) = escL (s.data.toList.take k) ++ escX s[k]) := escL_succ _ k hlt'
      generalize escL (s.data.toList.take k) = bs' at *
      have hcl := s[k].toNat_lt
      obtain ⟨c, hc⟩ : ∃ c, c = s[k] := ⟨_, rfl⟩
      rw [← hc] at HE hcl
      have hcN : s[k].toNat = c.toNat := by rw [hc]
      clear hc
      have hB0 := hBd.out
      have hBK0 := hBK.out
      clear hBd hBK
      have hfin : Hid (∀ x W, escX c = x → Nu.Bd w.heap.size w.heap.size (bs' ++ x) W → Nu.Bd w.heap.size w.heap.size (escL (s.data.toList.take (k + 1))) W) := fun x W e hh => by
        rw [HE.out, e]
        exact hh
      clear HE
      by_cases hq : c = 34 ∨ c = 92
      · have HE' := escX_quote hq
        rcases hq with rfl | rfl
        · have hcN' : s[k].toNat = 34 := hcN
          clear hcN hcl
          go_wp2_with (first
            | (go_at_call 30; refine (Nu.wb_lit w.heap.size w.heap.size bs' 92 92 rfl wr hB0 (by omega) hsz).mono ?_; clear hB0; rintro e w1 ⟨rfl, hB1, hk1⟩; have hsz1 := Nat.le_trans hsz hk1.below.size)
            | (go_at_call 30; refine (Nu.wb_lit w.heap.size w.heap.size _ 34 34 rfl w1 hB1 (by simp; omega) hsz1).mono ?_; clear hB1; rintro e w2 ⟨rfl, hB2, hk2⟩))
          go_roundw
          case rel => exact ⟨k + 1, by omega, by go_num, hfin.out _ _ HE' (by rw [List.append_assoc] at hB2; exact hB2), (hBK0.trans hk1.below).trans hk2.below⟩
          case measure => simp [intOf]; omega
        · have hcN' : s[k].toNat = 92 := hcN
          clear hcN hcl
          go_wp2_with (first
            | (go_at_call 30; refine (Nu.wb_lit w.heap.size w.heap.size bs' 92 92 rfl wr hB0 (by omega) hsz).mono ?_; clear hB0; rintro e w1 ⟨rfl, hB1, hk1⟩; have hsz1 := Nat.le_trans hsz hk1.below.size)
            | (go_at_call 30; refine (Nu.wb_lit w.heap.size w.heap.size _ 92 92 rfl w1 hB1 (by simp; omega) hsz1).mono ?_; clear hB1; rintro e w2 ⟨rfl, hB2, hk2⟩))
          go_roundw
          case rel => exact ⟨k + 1, by omega, by go_num, hfin.out _ _ HE' (by rw [List.append_assoc] at hB2; exact hB2), (hBK0.trans hk1.below).trans hk2.below⟩
          case measure => simp [intOf]; omega
      · by_cases h10 : c = 10
        · have HE' := escX_line h10
          subst h10
          have hcN' : s[k].toNat = 10 := hcN
          clear hcN hcl hq
          go_wp2_with (go_at_call 31; refine (Nu.ws_any w.heap.size w.heap.size bs' ⟨#[92, 110]⟩ wr hB0 (by omega) (by decide) hsz).mono ?_; clear hB0; rintro e w1 ⟨rfl, hB1, hk1⟩)
          go_roundw
          case rel => exact ⟨k + 1, by omega, by go_num, hfin.out _ _ HE' hB1, hBK0.trans hk1.below⟩
          case measure => simp [intOf]; omega
        · have HE' : Hid (escX c = [c]) := escX_plain hq h10
          have hw := Nu.wb_any w.heap.size w.heap.size bs' c wr hB0 (by omega) hsz
          have n1 : ¬ (c.toNat : Int) = 34 := fun e => hq (Or.inl (UInt8.toNat_inj.1 (by simp; omega)))
          have n2 : ¬ (c.toNat : Int) = 92 := fun e => hq (Or.inr (UInt8.toNat_inj.1 (by simp; omega)))
          have n3 : ¬ (c.toNat : Int) = 10 := fun e => h10 (UInt8.toNat_inj.1 (by simp; omega))
          have HQ : Hid (¬ (c = 34 ∨ c = 92) ∧ ¬ c = 10) := ⟨hq, h10⟩
          clear hq h10 hB0
          generalize c.toNat = cN at *
          go_wp2_with (go_at_call 30; refine hw.mono ?_; rintro e w1 ⟨rfl, hB1, hk1⟩)
          go_roundw
          case rel => exact ⟨k + 1, by omega, by go_num, hfin.out _ _ HE'.out hB1, hBK0.trans hk1.below⟩
          case measure => simp [intOf]; omega
    · have HE : Hid (escL (s.data.toList.take k) = escL s.data.toList) := by
        show _ = _
        rw [List.take_of_length_le (by rw [Array.length_toList]; exact Nat.le_of_not_lt hlt)]
      rw [HE.out] at hBd
      have hB0 := hBd.out
      have hBK0 := hBK.out
      go_wp2_with (go_at_call 32; refine (Any.Builder_String_any_k Tryz.lays169 Tryz.Builder_Extra_169 _ _ _ _ hB0 hsz).mono ?_; rintro e w5 ⟨rfl, hB5, hk5, hk6⟩)
      go_ret
      exact ⟨rfl, hBK0.trans hk5⟩
end Go.Proofs.YtfckdleahljdeaaGreatDoor

/- wakes. -/
namespace Go.Proofs.YtfckdleahljdeaaGreatDoor
open Go.RowKit Go.Maps
attribute [local go_sem] run_store_float

theorem parse_two : Nu.parseR ⟨#[50]⟩ = (4611686018427387904, 0) := by kernel_rfl
theorem int_three : Nu.intR ⟨#[51]⟩ = (3, 0) := by
  have e : Lib.itoa 3 = [51] := by
    unfold Lib.itoa
    rw [if_neg (by decide)]
    exact Lib.decDigits_one (show 3 < 10 by decide)
  have h := Nu.intR_yes (v := 3) ⟨by decide, by decide⟩
  rw [e] at h
  exact h
theorem read_w : readR ⟨#[117, 112, 123, 97, 61, 34, 49, 34, 125, 32, 50, 32, 51]⟩ = .ok [(nameB, ⟨#[117, 112]⟩), (⟨#[97]⟩, ⟨#[49]⟩)] 4611686018427387904 3 true := by
  obtain ⟨s, hs⟩ : ∃ s : ByteArray, s = ⟨#[117, 112, 123, 97, 61, 34, 49, 34, 125, 32, 50, 32, 51]⟩ := ⟨_, rfl⟩
  rw [← hs]
  have h0 : skipP s.data.toList 0 = 0 := by rw [hs]; kernel_rfl
  have h1 : wordP true s.data.toList 0 = 2 := by rw [hs]; kernel_rfl
  have h2 : skipP s.data.toList 2 = 2 := by rw [hs]; kernel_rfl
  have h3 : s.data.toList[2]? = some 123 := by rw [hs]; kernel_rfl
  have h4 : labsR s (s.size + 1) (2 + 1) [] = .inr ([(⟨#[97]⟩, ⟨#[49]⟩)], 9) := by rw [hs]; kernel_rfl
  have h5 : skipP s.data.toList 9 = 10 := by rw [hs]; kernel_rfl
  have h6 : tokP s.data.toList 10 = 11 := by rw [hs]; kernel_rfl
  have h7 : s.extract 10 11 = ⟨#[50]⟩ := by rw [hs]; kernel_rfl
  have h8 : skipP s.data.toList 11 = 12 := by rw [hs]; kernel_rfl
  have h9 : tokP s.data.toList 12 = 13 := by rw [hs]; kernel_rfl
  have ha : s.extract 12 13 = ⟨#[51]⟩ := by rw [hs]; kernel_rfl
  have hb : skipP s.data.toList 13 = 13 := by rw [hs]; kernel_rfl
  have hc : s.size = 13 := by rw [hs]; rfl
  have hd : s.extract 0 2 = ⟨#[117, 112]⟩ := by rw [hs]; kernel_rfl
  have he : hasL [((⟨#[97]⟩ : ByteArray), (⟨#[49]⟩ : ByteArray))] nameB = false := by kernel_rfl
  have hf : newR ((nameB, ⟨#[117, 112]⟩) :: [((⟨#[97]⟩ : ByteArray), (⟨#[49]⟩ : ByteArray))]) = ([(nameB, ⟨#[117, 112]⟩), (⟨#[97]⟩, ⟨#[49]⟩)], 0) := by kernel_rfl
  unfold readR
  rw [h0, h1, if_neg (by decide), h2, if_pos h3, h4]
  dsimp only
  rw [h5, hd]
  unfold numsR
  rw [h6, h7, parse_two, if_neg (by decide), h8, if_pos (by omega), h9, ha, int_three, if_neg (by decide), hb, if_neg (by omega)]
  unfold setR
  rw [he, if_neg (by decide), hf, if_neg (by decide)]
theorem line_w : lineR ⟨#[117, 112, 123, 97, 61, 34, 49, 34, 125, 32, 50, 32, 51]⟩ = .ok [(nameB, ⟨#[117, 112]⟩), (⟨#[97]⟩, ⟨#[49]⟩)] 4611686018427387904 3 true := by
  unfold lineR
  rw [if_neg (by decide), read_w]
theorem escape_w : (⟨(escL (⟨#[34]⟩ : ByteArray).data.toList).toArray⟩ : ByteArray) = ⟨#[92, 34]⟩ := by kernel_rfl

set_option maxRecDepth 100000 in
set_option maxHeartbeats 1000000 in
theorem wakesE_any (B : Nat) (w : World) (hB : B ≤ w.heap.size) (hE : Env w B) : Calls Tryz.prog 8 #[] w fun e w' => e = .returned (.bool true) ∧ Below w.heap.size w w' := by
  have hr := readLine_any B ⟨#[117, 112, 123, 97, 61, 34, 49, 34, 125, 32, 50, 32, 51]⟩ w hB hE (by decide)
  rw [line_w] at hr
  have HES : Hid (∀ W : World, Calls Tryz.prog 15 #[.string ⟨#[34]⟩] W fun e w' => e = .returned (.string ⟨#[92, 34]⟩) ∧ Below W.heap.size W w') := fun W => by
    have h9 := escape_any ⟨#[34]⟩ W (by decide)
    rw [escape_w] at h9
    exact h9
  have heq : FloatKind.f64.format.order 4611686018427387904 4611686018427387904 = some .eq := by kernel_rfl
  clear hE hB
  go_enter Tryz.func8, Tryz.ntmps8
  go_wp2_with (first
    | (go_at_call 5; refine hr.mono ?_; clear hr; rintro e w1 ⟨⟨a, n, c, rfl, hrow⟩, hb1⟩; obtain ⟨a', c', hsl⟩ := slice_of_row hrow; cases hsl; have HB1 : Hid (Below w.heap.size w w1) := hb1; clear hb1 hrow)
    | (go_at_call 15; refine (HES.out _).mono ?_; clear HES; rintro e w2 ⟨rfl, hb2⟩; have HB2 : Hid (Below w.heap.size w w2) := (HB1.out.alloc HB1.out.size _).trans (hb2.mono (by have := HB1.out.size; simp; omega)); clear hb2))
  go_ret
  exact ⟨rfl, HB2.out⟩
end Go.Proofs.YtfckdleahljdeaaGreatDoor

/- ExpoLine: the law. -/
namespace Go.Proofs.YtfckdleahljdeaaGreatDoor
open Go.RowKit Go.Maps
attribute [local go_sem] run_store_float

/-- A text's bytes in a row of their own. -/
theorem bytes_of (w : World) (s : ByteArray) (hs : s.size ≤ maxLen) : ∃ (c : Nat) (W1 : World), (convert 9 23 (.string s)).run Tryz.prog w = .ok (.slice (some ⟨w.heap.size, 0, none⟩) s.size c) W1 ∧ BytesAt W1 (.slice (some ⟨w.heap.size, 0, none⟩) s.size c) s.data.toList ∧ Below w.heap.size w W1 := by
  have hcv := Lib.run_convert_string_bytes (P := Tryz.prog) w 9 23 5 s Tryz.underlying9 Tryz.underlying23 Tryz.underlying5
  have hlen : s.data.toList.length = s.size := by simp
  have hc1 : s.size ≤ grownCap w s.size 0 5 := grownCap_ge w s.size 0 5
  have hc2 : grownCap w s.size 0 5 ≤ maxLen := grownCap_le_maxLen w s.size 0 5 hs
  refine ⟨_, _, hcv, ⟨some ⟨w.heap.size, 0, none⟩, _, by rw [hlen], ⟨by rw [hlen]; exact hc1, hc2⟩, (fun e => by cases e), fun k hk => ⟨w.heap.size, 0, rfl, by rw [Lib.bytesWorld_size]; omega, ?_⟩⟩, ⟨rfl, rfl, rfl, by rw [Lib.bytesWorld_size]; omega, fun j hj => Lib.bytesWorld_at_old w 5 s j hj⟩⟩
  have e9 : s.data.toList.getD k 0 = s.data.toList[k] := by rw [List.getD_eq_getElem?_getD, List.getElem?_eq_getElem hk]; rfl
  rw [Nat.zero_add, Lib.bytesWorld_cell w 5 s k (by omega), e9]
theorem line_cells {W : World} {g : Nat} {v0 v1 v2 v3 : Value} {t : TypeId} {z : Nat × Nat} (h : W.heap[g]? = some (.cells #[v0, v1, v2, v3] t z)) : W.cell? ⟨g, 0, none⟩ = some v0 ∧ W.cell? ⟨g, 1, none⟩ = some v1 ∧ W.cell? ⟨g, 2, none⟩ = some v2 ∧ W.cell? ⟨g, 3, none⟩ = some v3 := ⟨by rw [cellOf h]; rfl, by rw [cellOf h]; rfl, by rw [cellOf h]; rfl, by rw [cellOf h]; rfl⟩
/-- Three blocks more. -/
theorem three (w : World) (o1 o2 o3 : Obj) : (((w.alloc o1).alloc o2).alloc o3).heap[w.heap.size + 1]? = some o2 ∧ (((w.alloc o1).alloc o2).alloc o3).heap[w.heap.size + 2]? = some o3 ∧ Below w.heap.size w (((w.alloc o1).alloc o2).alloc o3) := by
  have s1 : (w.alloc o1).heap.size = w.heap.size + 1 := by simp
  have b1 : Below w.heap.size w (w.alloc o1) := (Below.refl _ _).alloc (Nat.le_refl _) _
  generalize w.alloc o1 = w1 at *
  have s2 : (w1.alloc o2).heap.size = w.heap.size + 2 := by simp; omega
  have b2 : Below w1.heap.size w1 (w1.alloc o2) := (Below.refl _ _).alloc (Nat.le_refl _) _
  have x2 := heap_alloc_new w1 o2
  rw [s1] at x2
  have b12 := b1.trans (b2.mono b1.size)
  generalize w1.alloc o2 = w2 at *
  have b3 : Below w2.heap.size w2 (w2.alloc o3) := (Below.refl _ _).alloc (Nat.le_refl _) _
  have x3 := heap_alloc_new w2 o3
  rw [s2] at x3
  exact ⟨(b3.block _ (by omega)).trans x2, x3, b12.trans (b3.mono b12.size)⟩
theorem lines_of {w2 w3 : World} {a a' : Option Addr} {c c' V : Nat} {T : Int} {h : Bool} {ls : List Lb} (h1 : LabsAt w2 (.slice a ls.length c) ls) (h2 : LabsAt w3 (.slice a' ls.length c') ls) (hb : Below w2.heap.size w2 w3) (hl : ls.length ≤ 1000000) (o1 : Obj) :
    Calls Tryz.prog 7 #[.slice (some ⟨w3.heap.size + 1, 0, none⟩) 1 1, .slice (some ⟨w3.heap.size + 2, 0, none⟩) 1 1] (((w3.alloc o1).alloc (.cells #[.slice a ls.length c, .float .f64 V, .int .i64 T, .bool h] 28)).alloc (.cells #[.slice a' ls.length c', .float .f64 V, .int .i64 T, .bool h] 28)) fun e w' => e = .returned (.bool true) ∧ Below w3.heap.size w3 w' := by
  obtain ⟨x1, x2, b⟩ := three w3 o1 (.cells #[.slice a ls.length c, .float .f64 V, .int .i64 T, .bool h] 28) (.cells #[.slice a' ls.length c', .float .f64 V, .int .i64 T, .bool h] 28)
  refine (keepLines_any _ _ V T h a a' c c' ls _ x1 x2 ((h1.below hb).below b) (h2.below b) hl).mono ?_
  rintro e w' ⟨he, q, rfl⟩
  exact ⟨he, below_drewN b q⟩

theorem lsOf_set {N : ByteArray} {ls : List Lb} {V : Nat} {T : Int} {h : Bool} : (lsOf (setR N ls V T h)).length ≤ 64 := by
  unfold setR
  split
  · exact Nat.zero_le _
  · split
    · exact Nat.zero_le _
    · exact newR_length _
theorem lsOf_nums {s N : ByteArray} {ls : List Lb} {i : Nat} : (lsOf (numsR s N ls i)).length ≤ 64 := by
  unfold numsR
  split
  · exact Nat.zero_le _
  · split
    · split
      · exact Nat.zero_le _
      · split
        · exact Nat.zero_le _
        · exact lsOf_set
    · exact lsOf_set
theorem lsOf_read {s : ByteArray} : (lsOf (readR s)).length ≤ 64 := by
  unfold readR
  split
  · exact Nat.zero_le _
  · split
    · cases labsR s (s.size + 1) (skipP s.data.toList (wordP true s.data.toList (skipP s.data.toList 0)) + 1) [] with
      | inl pe => exact Nat.zero_le _
      | inr lp => exact lsOf_nums
    · split
      · exact Nat.zero_le _
      · exact lsOf_nums
theorem lsOf_few {s : ByteArray} : (lsOf (lineR s)).length ≤ 1000000 := by
  unfold lineR
  split
  · cases readR (frontB s) <;> exact Nat.zero_le _
  · exact Nat.le_trans lsOf_read (by decide)

set_option maxRecDepth 100000 in
set_option maxHeartbeats 4000000 in
theorem lineLaw_any (v : Value) (ss : List ByteArray) (w : World) (ha : TextsAt w v ss) (hE : Env w w.heap.size) :
    Calls Tryz.prog 3 #[v] w fun e w' => e = .returned (.bool true) ∧ Below w.heap.size w w' := by
  obtain ⟨a, c, rfl, hlc, -⟩ := id ha
  have HA : Hid (TextsAt w (.slice a ss.length c) ss) := ha
  have HE : Hid (Env w w.heap.size) := hE
  have hc : c ≤ 9223372036854775807 := hlc.2
  have hssl : ss.length ≤ 9223372036854775807 := by have := hlc.1; omega
  clear ha hE hlc
  go_enter Tryz.func3, Tryz.ntmps3
  go_wp2
  go_loopw [3] (fun i wr => ∃ k : Nat, k ≤ 30 ∧ k ≤ ss.length ∧ i = .int .i64 k ∧ Hid (Below w.heap.size w wr)) (fun i _ => 30 - (intOf i).toNat)
  case atStart => exact ⟨0, by omega, by omega, rfl, Below.refl _ _⟩
  case round =>
    obtain ⟨k, hk, hkl, rfl, HBL⟩ := hrel
    have HWK : Hid (Calls Tryz.prog 8 #[] wr fun e w' => e = .returned (.bool true) ∧ Below wr.heap.size wr w') := wakesE_any w.heap.size wr HBL.out.size (fun W hb => HE.out W (HBL.out.trans hb))
    by_cases hlt : k < ss.length
    · by_cases h30 : k < 30
      · clear HWK
        obtain ⟨b, o, rfl, hsz, hcells⟩ := HA.out.one k hlt
        have hcell := hcells wr HBL.out
        generalize ss[k] = s at *
        have hlti : (k : Int) < (ss.length : Int) := by omega
        have h30i : (k : Int) < 30 := by omega
        obtain ⟨c1, W1, hcv, hby, hb1⟩ := bytes_of wr s hsz
        have hclip := clip_any _ _ W1 hby (by simpa [maxLen] using hsz)
        have HB1 : Hid (Below w.heap.size w W1) := HBL.out.trans (hb1.mono HBL.out.size)
        obtain ⟨t, ht⟩ : ∃ t : ByteArray, t = ⟨(s.data.toList.take 1500).toArray⟩ := ⟨_, rfl⟩
        have htz : t.size ≤ 1500 := by
          rw [ht]
          show (s.data.toList.take 1500).toArray.size ≤ 1500
          rw [List.size_toArray, List.length_take]
          omega
        have HCL : Hid (Calls Tryz.prog 4 #[.slice (some ⟨wr.heap.size, 0, none⟩) s.size c1] W1 fun e w' => ∃ v', e = .returned v' ∧ (convert 23 9 v').run Tryz.prog W1 = .ok (.string t) W1 ∧ w' = W1) := hclip.mono (by
          rintro e w' ⟨v', he, hv, hw⟩
          refine ⟨v', he, ?_, hw⟩
          rw [ht]
          exact hv.str)
        have HRL : Hid (Calls Tryz.prog 5 #[.string t] W1 fun e w' => ∃ a c, e = .returned (.tuple #[.agg #[.slice a (lsOf (lineR t)).length c, .float .f64 (vOf (lineR t)), .int .i64 (tOf (lineR t)), .bool (hOf (lineR t))], .int .i64 (pOf (lineR t)), .int .i64 (eOf (lineR t))]) ∧ LabsAt w' (.slice a (lsOf (lineR t)).length c) (lsOf (lineR t)) ∧ Below W1.heap.size W1 w') := (readLine_any w.heap.size t W1 HB1.out.size (fun W hb => HE.out W (HB1.out.trans hb)) (by omega)).mono (by
          rintro e w' ⟨hP, hb⟩
          obtain ⟨a9, c9, he, hr⟩ := hP.parts
          exact ⟨a9, c9, he, LabsAt.of_row hr, hb⟩)
        have HRR : Hid (∀ W, Calls Tryz.prog 6 #[.string t] W fun e w' => ∃ a c, e = .returned (.tuple #[.agg #[.slice a (lsOf (lineR t)).length c, .float .f64 (vOf (lineR t)), .int .i64 (tOf (lineR t)), .bool (hOf (lineR t))], .int .i64 (pOf (lineR t)), .int .i64 (eOf (lineR t))]) ∧ LabsAt w' (.slice a (lsOf (lineR t)).length c) (lsOf (lineR t)) ∧ Below W.heap.size W w') := fun W => (refReadLine_any t W (by omega)).mono (by
          rintro e w' ⟨hP, hb⟩
          obtain ⟨a9, c9, he, hr⟩ := hP.parts
          exact ⟨a9, c9, he, LabsAt.of_row hr, hb⟩)
        have hll : (lsOf (lineR t)).length ≤ 1000000 := lsOf_few
        generalize lsOf (lineR t) = ls at *
        generalize vOf (lineR t) = V at *
        generalize tOf (lineR t) = T at *
        generalize hOf (lineR t) = hh at *
        generalize pOf (lineR t) = P at *
        generalize eOf (lineR t) = E at *
        have HLL : Hid (ls.length ≤ 1000000) := hll
        obtain ⟨nl, hnl⟩ : ∃ n, n = ls.length := ⟨_, rfl⟩
        clear hby hclip ht htz hb1 HA HE hcells hll hsz
        go_wp2_with (first
          | (go_at_call 4; refine HCL.out.mono ?_; clear HCL hcv hcell; rintro e w1 ⟨v', rfl, hst, hw⟩; have hw := hw.symm; subst hw)
          | (go_at_call 5; refine HRL.out.mono ?_; clear HRL hst; rintro e w2 ⟨a2, c2, rfl, hl2, hb2⟩; have HL2 : Hid (LabsAt w2 (.slice a2 ls.length c2) ls) := hl2; have HB2 : Hid (Below w.heap.size w w2) := HB1.out.trans (hb2.mono HB1.out.size); clear hl2 hb2 HB1)
          | (go_at_call 6; refine (HRR.out _).mono ?_; clear HRR; rintro e w3 ⟨a3, c3, rfl, hl3, hb3⟩; have hb23 : Below w2.heap.size w2 w3 := ((Below.refl _ _).alloc (Nat.le_refl _) _).trans (hb3.mono (by rw [World.size_alloc]; omega)); have hx2 := (hb3.block w2.heap.size (by simp)).trans (heap_alloc_new w2 _); have HKL : Hid (∀ o1, Calls Tryz.prog 7 #[.slice (some ⟨w3.heap.size + 1, 0, none⟩) 1 1, .slice (some ⟨w3.heap.size + 2, 0, none⟩) 1 1] (((w3.alloc o1).alloc (.cells #[.slice a2 ls.length c2, .float .f64 V, .int .i64 T, .bool hh] 28)).alloc (.cells #[.slice a3 ls.length c3, .float .f64 V, .int .i64 T, .bool hh] 28)) fun e w' => e = .returned (.bool true) ∧ Below w3.heap.size w3 w') := fun o1 => lines_of HL2.out hl3 hb23 HLL.out o1; have HB3 : Hid (Below w.heap.size w w3) := HB2.out.trans (hb23.mono HB2.out.size); have hx3 := (((Below.refl w3.heap.size w3).alloc (Nat.le_refl _) (.cells #[.slice a3 ls.length c3, .float .f64 V, .int .i64 T, .bool hh] 28)).block w2.heap.size (Nat.lt_of_lt_of_le (by simp) hb3.size)).trans hx2; obtain ⟨z0, z1, z2, z3⟩ := line_cells hx3; have hlt3 : w2.heap.size < w3.heap.size := Nat.lt_of_lt_of_le (by simp) hb3.size; clear hl3 hb3 hb23 HL2 HB2 hx2 hx3)
          | (go_at_call 7; refine (HKL.out _).mono ?_; clear HKL; rintro e w4 ⟨rfl, hb4⟩; have HB4 : Hid (Below w.heap.size w w4) := HB3.out.trans (hb4.mono HB3.out.size); clear hb4))
        go_roundw
        case rel => exact ⟨k + 1, by omega, by omega, by go_num, HB4.out⟩
        case measure => simp [intOf]; omega
      · have h30i : ¬ (k : Int) < 30 := by omega
        have hlti : (k : Int) < (ss.length : Int) := by omega
        go_wp2_with (go_at_call 8; refine HWK.out.mono ?_; clear HWK; rintro e w7 ⟨rfl, hb7⟩; have HB7 : Hid (Below w.heap.size w w7) := HBL.out.trans (hb7.mono HBL.out.size); clear hb7)
        go_ret
        exact ⟨rfl, HB7.out⟩
    · have hki : ¬ (k : Int) < (ss.length : Int) := by omega
      go_wp2_with (go_at_call 8; refine HWK.out.mono ?_; clear HWK; rintro e w7 ⟨rfl, hb7⟩; have HB7 : Hid (Below w.heap.size w w7) := HBL.out.trans (hb7.mono HBL.out.size); clear hb7)
      go_ret
      exact ⟨rfl, HB7.out⟩
end Go.Proofs.YtfckdleahljdeaaGreatDoor
