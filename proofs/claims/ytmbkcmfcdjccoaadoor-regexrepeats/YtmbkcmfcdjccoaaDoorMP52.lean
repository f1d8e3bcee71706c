/- Texts that belong together. -/
import Derived.Test.YtmbkcmfcdjccoaaDoorMP49
import Derived.Test.YtmbkcmfcdjccoaaDoorYa
import Derived.Handy
import Derived.Deep.Light
import Derived.LoopN
import Derived.Lib.ValidLaws
/- The wakes of regex's statements. -/
namespace Go.Proofs.YtmbkcmfcdjccoaaDoor
open Go.RowKit Go.Maps

def wkE : ByteArray := ⟨#[40, 97, 124, 97, 98, 41, 40, 99, 124, 98, 99, 100, 41]⟩
def wkX : Nd := match compR wkE with
  | .ok x _ => x
  | _ => .start
theorem wk1 : compR wkE = .ok wkX 2 := by kernel_rfl
theorem wk2 : groupsF wkX 2 ⟨#[97, 98, 99, 100]⟩ = some [0, 4, 0, 1, 1, 4] := by kernel_rfl
theorem wk3 : runF (progR wkX) ⟨#[97, 98, 99, 100, 101]⟩ false = none := by kernel_rfl
theorem known_of {s : ByteArray} {x : Nd} {g : Nat} (h : compR s = .ok x g) : PgK x g := by
  obtain ⟨-, h1, h2, h3, h4⟩ := comp_known h
  exact ⟨h1, h2, h3, h4⟩
theorem Fresh.lt {a b i : Nat} (h : Fresh a b i) : i < b := h.2
set_option maxRecDepth 100000 in
set_option maxHeartbeats 1000000 in
/-- Two slices that read alike are alike. -/
theorem ints_eq (b b2 n : Nat) (l : List Int) (w : World) (hn : l.length = n) (h : w.heap[b]? = some (.cells (l.map (Value.int .i64)).toArray 3)) (h2 : w.heap[b2]? = some (.cells (l.map (Value.int .i64)).toArray 3)) (hl : n ≤ 1000000) :
    Calls Tryd.prog 19 #[.slice (some ⟨b, 0, none⟩) n n, .slice (some ⟨b2, 0, none⟩) n n] w fun e w' => e = .returned (.bool true) ∧ ∃ q, w' = w.drewN q := by
  have HL : Hid (∀ (q k : Nat), k < n → ∃ x : Int, (w.drewN q).cell? ⟨b, k, none⟩ = some (.int .i64 x) ∧ (w.drewN q).cell? ⟨b2, k, none⟩ = some (.int .i64 x)) := fun q k hk => by
    refine ⟨l[k]'(by omega), ?_, ?_⟩
    · rw [cell_of_heap (w := w.drewN q) h]
      simp
    · rw [cell_of_heap (w := w.drewN q) h2]
      simp
  clear h h2 hn
  go_enter Tryd.func19, Tryd.ntmps19
  go_wp2
  go_loopw [5] (fun i wr => ∃ k q : Nat, k ≤ n ∧ i = .int .i64 k ∧ wr = w.drewN q) (fun i _ => n - (intOf i).toNat)
  case atStart => exact ⟨0, 0, Nat.zero_le _, rfl, rfl⟩
  case round =>
    obtain ⟨k, q, hk, rfl, rfl⟩ := hrel
    by_cases hlt : k < n
    · obtain ⟨x, g0, g1⟩ := HL.out q k hlt
      generalize hw : w.drewN q = wq at *
      have HW : Hid (w.drewN q = wq) := hw
      clear hw
      have hkl : (k : Int) < (n : Int) := by omega
      go_wp2_with fail
      go_quiet (fail)
      go_wp2
      go_roundw
      case rel => exact ⟨k + 1, q + nq, by omega, by go_num, by rw [← HW.out, drewN_drewN]⟩
      case measure => simp [intOf]; omega
    · have hkl : ¬ (k : Int) < (n : Int) := by omega
      go_wp2
      go_ret
      exact ⟨rfl, q, rfl⟩
set_option maxRecDepth 100000 in
set_option maxHeartbeats 1600000 in
theorem wakes_any (B : Nat) (w : World) (hE : Env8 w B) (hB : B ≤ w.heap.size) :
    Calls Tryd.prog 8 #[] w fun e w' => e = .returned (.bool true) ∧ Below w.heap.size w w' := by
  have hc := compile_any B wkE w hE hB
  rw [wk1] at hc
  have HC := hide hc
  have HE := hide hE
  clear hc hE
  go_enter Tryd.func8, Tryd.ntmps8
  go_wp2_with (first
    | (go_at_call 10; refine HC.out.mono ?_; clear HC; rintro e w1 ⟨hb, p, ms, rfl, hms, hpg⟩
       have HK : Hid (∀ W, Below w1.heap.size w1 W → PgS W (Fresh w.heap.size w1.heap.size) p wkX 2 ∧ Env8 W B ∧ B ≤ W.heap.size ∧ ∀ i, Fresh w.heap.size w1.heap.size i → i < W.heap.size) := fun W hW => ⟨PgS.below ⟨ms, hms, hpg⟩ (fun i hi => hi.2) hW, (HE.out.below (hb.mono hB)).below (hW.mono (Nat.le_trans hB hb.size)), Nat.le_trans hB (Nat.le_trans hb.size hW.size), fun i hi => Nat.lt_of_lt_of_le hi.2 hW.size⟩
       have HB := hide hb
       have HGR : Hid (Calls Tryd.prog 18 #[.pointer (some ⟨p, 0, none⟩), .string ⟨#[97, 98, 99, 100]⟩] w1 fun e w' => Below w1.heap.size w1 w' ∧ ∃ b, e = .returned (.tuple #[.slice (some ⟨b, 0, none⟩) 6 6, .bool true]) ∧ w'.heap[b]? = some (.cells (([0, 4, 0, 1, 1, 4] : List Int).map (Value.int .i64)).toArray 3)) := by
         obtain ⟨g1, g2, g3, g4⟩ := HK.out w1 (Below.refl _ _)
         have h9 := groups_any B p 2 _ wkX ⟨#[97, 98, 99, 100]⟩ w1 g1 (known_of wk1) g4 g2 g3 (by decide)
         rw [wk2] at h9
         refine h9.mono ?_
         rintro e w' ⟨h1, b, h2, h3, h4, h5⟩
         exact ⟨h1, b, h3, h4⟩
       have HMT : Hid (∀ W, Below w1.heap.size w1 W → Calls Tryd.prog 12 #[.pointer (some ⟨p, 0, none⟩), .string ⟨#[97, 98, 99, 100, 101]⟩] W fun e w' => e = .returned (.bool false) ∧ Below W.heap.size W w') := fun W hW => by
         obtain ⟨g1, g2, g3, g4⟩ := HK.out W hW
         have h9 := match_any B p 2 _ wkX ⟨#[97, 98, 99, 100, 101]⟩ W g1 (known_of wk1) g4 g2 g3 (by decide)
         rw [wk3] at h9
         exact h9
       have HCT : Hid (∀ W, Below w1.heap.size w1 W → Calls Tryd.prog 20 #[.pointer (some ⟨p, 0, none⟩)] W fun e w' => e = .returned (.int .i64 2) ∧ w' = W) := fun W hW => count_any p 2 _ wkX W (HK.out W hW).1
       clear hb hms hpg HK)
    | (go_at_call 18; refine HGR.out.mono ?_; clear HGR; rintro e w2 ⟨hb2, b, rfl, hrow⟩
       have HI : Hid (∀ W, W = w2.alloc (.cells #[.int .i64 0, .int .i64 4, .int .i64 0, .int .i64 1, .int .i64 1, .int .i64 4] 3) → Calls Tryd.prog 19 #[.slice (some ⟨b, 0, none⟩) 6 6, .slice (some ⟨w2.heap.size, 0, none⟩) 6 6] W fun e w' => e = .returned (.bool true) ∧ Below w1.heap.size w1 w') := fun W hW => by
         subst hW
         have hbl : b < w2.heap.size := (Array.getElem?_eq_some_iff.1 hrow).1
         refine (ints_eq b w2.heap.size 6 [0, 4, 0, 1, 1, 4] _ rfl ((Below.heap_alloc _ _ _ (by omega)).trans hrow) (heap_alloc_new _ _) (by decide)).mono ?_
         rintro e w' ⟨h1, q, rfl⟩
         exact ⟨h1, below_drewN (hb2.alloc hb2.size _) _⟩
       clear hb2 hrow)
    | (go_at_call 19; refine (HI.out _ rfl).mono ?_; clear HI; rintro e w3 ⟨rfl, hb3⟩; have HB3 := hide hb3; clear hb3)
    | (go_at_call 12; refine (HMT.out _ HB3.out).mono ?_; clear HMT; rintro e w4 ⟨rfl, hb4⟩; have HB4 := hide (HB3.out.trans (hb4.mono HB3.out.size)); clear hb4)
    | (go_at_call 20; refine (HCT.out _ HB4.out).mono ?_; clear HCT; rintro e w5 ⟨rfl, rfl⟩))
  go_ret
  exact ⟨rfl, HB.out.trans (HB4.out.mono HB.out.size)⟩
end Go.Proofs.YtmbkcmfcdjccoaaDoor

/- Which names are right, by the document. -/
namespace Go.Proofs.YtmbkcmfcdjccoaaDoor
open Go.RowKit

def okc (colons : Bool) (i : Nat) (c : Int) : Bool := decide (97 ≤ c ∧ c ≤ 122) || decide (65 ≤ c ∧ c ≤ 90) || decide (c = 95) || (decide (48 ≤ c ∧ c ≤ 57) && decide (0 < i)) || (decide (c = 58) && colons)
def upTo (colons : Bool) (s : ByteArray) (k : Nat) : Prop := ∀ i (h : i < s.size), i < k → okc colons i s[i].toNat = true
def wd (colons : Bool) (s : ByteArray) : Bool := decide (1 ≤ s.size ∧ s.size ≤ 1024) && decide (∀ i (h : i < s.size), okc colons i s[i].toNat = true)

theorem wd_bad {b : Bool} {s : ByteArray} (h : ¬ (1 ≤ s.size ∧ s.size ≤ 1024)) : wd b s = false := by simp [wd, h]
theorem wd_no {b : Bool} {s : ByteArray} (i : Nat) (h : i < s.size) (hc : okc b i s[i].toNat = false) : wd b s = false := by
  unfold wd
  rw [Bool.and_eq_false_iff]
  right
  rw [decide_eq_false_iff_not]
  intro hall
  have := hall i h
  rw [hc] at this
  cases this
theorem wd_ok {b : Bool} {s : ByteArray} (h1 : 1 ≤ s.size) (h2 : s.size ≤ 1024) (h : upTo b s s.size) : wd b s = true := by
  unfold wd
  rw [Bool.and_eq_true]
  exact ⟨by simp [h1, h2], by rw [decide_eq_true_iff]; exact fun i hi => h i hi hi⟩
theorem upTo_succ {b : Bool} {s : ByteArray} {k : Nat} (h : upTo b s k) (hk : k < s.size) (hc : okc b k s[k].toNat = true) : upTo b s (k + 1) := fun i hi hlt => by
  rcases Nat.lt_succ_iff_lt_or_eq.1 hlt with h1 | h1
  · exact h i hi h1
  · subst h1
    exact hc
theorem size_toList (s : ByteArray) : s.toList.length = s.size := by rw [ByteArray.toList_eq]; simp
theorem not_nil {s : ByteArray} (h : 1 ≤ s.size) : ¬ s.toList = [] := fun e => by
  have := size_toList s
  rw [e] at this
  simp at this
  omega
theorem not_empty {s : ByteArray} (h : 1 ≤ s.size) : s.toList.isEmpty = false := by
  have := not_nil h
  cases hs : s.toList
  · exact absurd hs this
  · rfl
theorem is_nil {s : ByteArray} (h : s.size = 0) : s.toList = [] := List.eq_nil_of_length_eq_zero (by rw [size_toList, h])
theorem is_empty {s : ByteArray} (h : s.size = 0) : s.toList.isEmpty = true := by rw [is_nil h]; rfl
theorem upTo_zero {b : Bool} {s : ByteArray} : upTo b s 0 := fun _i _ h => absurd h (Nat.not_lt_zero _)

end Go.Proofs.YtmbkcmfcdjccoaaDoor

/- Which texts are UTF-8, by the document. -/
namespace Go.Proofs.YtmbkcmfcdjccoaaDoor
open Go.RowKit

/-- How many bytes the character has that begins there; 0: none does. -/
def wN (n b0 b1 b2 b3 : Nat) : Nat := if b0 < 128 then 1 else (Lib.checkN n b1 b2 b3 (Lib.firstT b0 % 8) (Lib.accLo (Lib.firstT b0 / 16)) (Lib.accHi (Lib.firstT b0 / 16))).getD 0
def bAt (s : ByteArray) (i : Nat) : Nat := (s.data.toList.getD i 0).toNat
theorem bAt_eq {s : ByteArray} {i : Nat} (h : i < s.size) : s[i].toNat = bAt s i := by
  unfold bAt
  have : s.data.toList.getD i 0 = s[i] := by
    have h' : i < s.data.toList.length := by rw [Array.length_toList]; exact h
    rw [List.getD_eq_getElem?_getD, List.getElem?_eq_getElem h']
    rfl
  rw [this]
theorem bAt_lt (s : ByteArray) (i : Nat) : bAt s i < 256 := by unfold bAt; exact UInt8.toNat_lt _


theorem w1 {m b0 b1 b2 b3 : Nat} (h : b0 < 128) : wN m b0 b1 b2 b3 = 1 := by simp [wN, h]
theorem w0 {m b0 b1 b2 b3 : Nat} (h : 128 ≤ b0) (h' : b0 < 192 ∨ 248 ≤ b0) : wN m b0 b1 b2 b3 = 0 := by
  have hf : Lib.firstT b0 = 241 := by
    unfold Lib.firstT
    repeat' split
    all_goals first | rfl | omega
  simp [wN, show ¬ b0 < 128 by omega, hf, Lib.checkN]
theorem w2 {m b0 b1 b2 b3 : Nat} (h : 192 ≤ b0) (h' : b0 < 224) : wN m b0 b1 b2 b3 = if 2 ≤ m ∧ 128 ≤ b1 ∧ b1 < 192 ∧ 128 ≤ 64 * (b0 - 192) + (b1 - 128) then 2 else 0 := by
  by_cases c : b0 < 194
  · have hf : Lib.firstT b0 = 241 := by
      unfold Lib.firstT
      repeat' split
      all_goals first | rfl | omega
    simp [wN, show ¬ b0 < 128 by omega, hf, Lib.checkN]
    omega
  · have hf : Lib.firstT b0 = 2 := by
      unfold Lib.firstT
      repeat' split
      all_goals first | rfl | omega
    simp [wN, show ¬ b0 < 128 by omega, hf, Lib.checkN, Lib.accLo, Lib.accHi]
    repeat' split
    all_goals first | rfl | omega | (simp; omega)
theorem w3 {m b0 b1 b2 b3 : Nat} (h : 224 ≤ b0) (h' : b0 < 240) : wN m b0 b1 b2 b3 = if 3 ≤ m ∧ 128 ≤ b1 ∧ b1 < 192 ∧ 128 ≤ b2 ∧ b2 < 192 ∧ 2048 ≤ 64 * (64 * (b0 - 224) + (b1 - 128)) + (b2 - 128) ∧ ¬ (55296 ≤ 64 * (64 * (b0 - 224) + (b1 - 128)) + (b2 - 128) ∧ 64 * (64 * (b0 - 224) + (b1 - 128)) + (b2 - 128) ≤ 57343) then 3 else 0 := by
  have key : ∀ f lo hi : Nat, Lib.firstT b0 = f → f % 8 = 3 → Lib.accLo (f / 16) = lo → Lib.accHi (f / 16) = hi → wN m b0 b1 b2 b3 = if m < 3 ∨ b1 < lo ∨ hi < b1 ∨ b2 < 128 ∨ 191 < b2 then 0 else 3 := fun f lo hi e1 e2 e3 e4 => by
    simp only [wN, if_neg (show ¬ b0 < 128 by omega), e1, e2, e3, e4, Lib.checkN]
    simp only [show ¬ (3 = 2) by omega, if_false, if_true]
    split <;> rfl
  by_cases c : b0 = 224
  · rw [key 19 160 191 (by subst c; rfl) rfl rfl rfl]
    repeat' split
    all_goals first | rfl | (exfalso; omega)
  · by_cases c2 : b0 = 237
    · rw [key 35 128 159 (by subst c2; rfl) rfl rfl rfl]
      repeat' split
      all_goals first | rfl | (exfalso; omega)
    · have hf : Lib.firstT b0 = 3 := by
        unfold Lib.firstT
        repeat' split
        all_goals first | rfl | omega
      rw [key 3 128 191 hf rfl rfl rfl]
      repeat' split
      all_goals first | rfl | (exfalso; omega)
theorem w4 {m b0 b1 b2 b3 : Nat} (h : 240 ≤ b0) (h' : b0 < 248) : wN m b0 b1 b2 b3 = if 4 ≤ m ∧ 128 ≤ b1 ∧ b1 < 192 ∧ 128 ≤ b2 ∧ b2 < 192 ∧ 128 ≤ b3 ∧ b3 < 192 ∧ 65536 ≤ 64 * (64 * (64 * (b0 - 240) + (b1 - 128)) + (b2 - 128)) + (b3 - 128) ∧ 64 * (64 * (64 * (b0 - 240) + (b1 - 128)) + (b2 - 128)) + (b3 - 128) ≤ 1114111 then 4 else 0 := by
  have key : ∀ f lo hi : Nat, Lib.firstT b0 = f → f % 8 = 4 → Lib.accLo (f / 16) = lo → Lib.accHi (f / 16) = hi → wN m b0 b1 b2 b3 = if m < 4 ∨ b1 < lo ∨ hi < b1 ∨ b2 < 128 ∨ 191 < b2 ∨ b3 < 128 ∨ 191 < b3 then 0 else 4 := fun f lo hi e1 e2 e3 e4 => by
    simp only [wN, if_neg (show ¬ b0 < 128 by omega), e1, e2, e3, e4, Lib.checkN]
    simp only [show ¬ (4 = 2) by omega, show ¬ (4 = 3) by omega, if_false, if_true]
    split <;> rfl
  by_cases c : b0 = 240
  · rw [key 52 144 191 (by subst c; rfl) rfl rfl rfl]
    repeat' split
    all_goals first | rfl | (exfalso; omega)
  · by_cases c2 : b0 = 244
    · rw [key 68 128 143 (by subst c2; rfl) rfl rfl rfl]
      repeat' split
      all_goals first | rfl | (exfalso; omega)
    · by_cases c3 : b0 < 244
      · have hf : Lib.firstT b0 = 4 := by
          unfold Lib.firstT
          repeat' split
          all_goals first | rfl | omega
        rw [key 4 128 191 hf rfl rfl rfl]
        repeat' split
        all_goals first | rfl | (exfalso; omega)
      · have hf : Lib.firstT b0 = 241 := by
          unfold Lib.firstT
          repeat' split
          all_goals first | rfl | omega
        rw [if_neg (by omega)]
        simp [wN, show ¬ b0 < 128 by omega, hf, Lib.checkN]

set_option maxRecDepth 100000 in
set_option maxHeartbeats 4000000 in
theorem utf8_one (s : ByteArray) (i : Nat) (w : World) (hs : s.size ≤ 1024) (hi : i < s.size) (h0 : bAt s i < 128) :
    Calls Tryd.prog 17 #[.string s, .int .i64 i] w fun e w' => e = .returned (.int .i64 1) ∧ w' = w := by
  have e0 := bAt_eq hi
  generalize bAt s i = b0 at *
  go_enter Tryd.func17, Tryd.ntmps17
  go_wp2
  go_rounds 1
  go_ret
  exact ⟨rfl, rfl⟩

set_option maxRecDepth 100000 in
set_option maxHeartbeats 4000000 in
theorem utf8_zero (s : ByteArray) (i : Nat) (w : World) (_hs : s.size ≤ 1024) (hi : i < s.size) (h0 : 128 ≤ bAt s i) (c2 : bAt s i < 192 ∨ 248 ≤ bAt s i) :
    Calls Tryd.prog 17 #[.string s, .int .i64 i] w fun e w' => e = .returned (.int .i64 0) ∧ w' = w := by
  have e0 := bAt_eq hi
  have l0 := bAt_lt s i
  generalize bAt s i = b0 at *
  go_enter Tryd.func17, Tryd.ntmps17
  rcases c2 with c2 | c2
  all_goals
    go_wp2
    go_ret
    exact ⟨rfl, rfl⟩

set_option maxRecDepth 100000 in
set_option maxHeartbeats 4000000 in
theorem utf8_short2 (s : ByteArray) (i : Nat) (w : World) (hs : s.size ≤ 1024) (hi : i < s.size) (h0 : 192 ≤ bAt s i) (h0b : bAt s i < 224) (hm : s.size < i + 2) :
    Calls Tryd.prog 17 #[.string s, .int .i64 i] w fun e w' => e = .returned (.int .i64 0) ∧ w' = w := by
  have e0 := bAt_eq hi
  generalize bAt s i = b0 at *
  go_enter Tryd.func17, Tryd.ntmps17
  go_wp2
  go_ret
  exact ⟨rfl, rfl⟩

set_option maxRecDepth 100000 in
set_option maxHeartbeats 4000000 in
theorem utf8_short3 (s : ByteArray) (i : Nat) (w : World) (hs : s.size ≤ 1024) (hi : i < s.size) (h0 : 224 ≤ bAt s i) (h0b : bAt s i < 240) (hm : s.size < i + 3) :
    Calls Tryd.prog 17 #[.string s, .int .i64 i] w fun e w' => e = .returned (.int .i64 0) ∧ w' = w := by
  have e0 := bAt_eq hi
  generalize bAt s i = b0 at *
  go_enter Tryd.func17, Tryd.ntmps17
  go_wp2
  go_ret
  exact ⟨rfl, rfl⟩

set_option maxRecDepth 100000 in
set_option maxHeartbeats 4000000 in
theorem utf8_short4 (s : ByteArray) (i : Nat) (w : World) (hs : s.size ≤ 1024) (hi : i < s.size) (h0 : 240 ≤ bAt s i) (h0b : bAt s i < 248) (hm : s.size < i + 4) :
    Calls Tryd.prog 17 #[.string s, .int .i64 i] w fun e w' => e = .returned (.int .i64 0) ∧ w' = w := by
  have e0 := bAt_eq hi
  generalize bAt s i = b0 at *
  go_enter Tryd.func17, Tryd.ntmps17
  go_wp2
  go_ret
  exact ⟨rfl, rfl⟩

set_option maxRecDepth 100000 in
set_option maxHeartbeats 4000000 in
theorem utf8_full2 (s : ByteArray) (i : Nat) (w : World) (hs : s.size ≤ 1024) (hi : i < s.size) (h0 : 192 ≤ bAt s i) (h0b : bAt s i < 224) (hm : i + 2 ≤ s.size) (r : Nat) (HR : Hid ((if (2 ≤ s.size - i ∧ 128 ≤ bAt s (i + 1) ∧ bAt s (i + 1) < 192 ∧ 128 ≤ 64 * (bAt s i - 192) + (bAt s (i + 1) - 128)) then 2 else 0) = r)) :
    Calls Tryd.prog 17 #[.string s, .int .i64 i] w fun e w' => e = .returned (.int .i64 r) ∧ w' = w := by
  have e0 := bAt_eq hi
  have m1 : i + 1 < s.size := by omega
  have e1 := bAt_eq m1
  have l1 := bAt_lt s (i + 1)
  generalize bAt s i = b0 at *
  generalize bAt s (i + 1) = b1 at *
  go_enter Tryd.func17, Tryd.ntmps17
  go_wp2
  go_rounds 2
  all_goals (go_ret; refine ⟨ret_int ?_, rfl⟩; go_light; have h := HR.out; first | (rw [if_pos (by omega)] at h; omega) | (rw [if_neg (by omega)] at h; omega))


end Go.Proofs.YtmbkcmfcdjccoaaDoor

/- A character of three bytes. -/
namespace Go.Proofs.YtmbkcmfcdjccoaaDoor
open Go.RowKit

set_option maxRecDepth 100000 in
set_option maxHeartbeats 4000000 in
theorem utf8_full3 (s : ByteArray) (i : Nat) (w : World) (hs : s.size ≤ 1024) (hi : i < s.size) (h0 : 224 ≤ bAt s i) (h0b : bAt s i < 240) (hm : i + 3 ≤ s.size) (r : Nat) (HR : Hid ((if (3 ≤ s.size - i ∧ 128 ≤ bAt s (i + 1) ∧ bAt s (i + 1) < 192 ∧ 128 ≤ bAt s (i + 2) ∧ bAt s (i + 2) < 192 ∧ 2048 ≤ 64 * (64 * (bAt s i - 224) + (bAt s (i + 1) - 128)) + (bAt s (i + 2) - 128) ∧ ¬ (55296 ≤ 64 * (64 * (bAt s i - 224) + (bAt s (i + 1) - 128)) + (bAt s (i + 2) - 128) ∧ 64 * (64 * (bAt s i - 224) + (bAt s (i + 1) - 128)) + (bAt s (i + 2) - 128) ≤ 57343)) then 3 else 0) = r)) :
    Calls Tryd.prog 17 #[.string s, .int .i64 i] w fun e w' => e = .returned (.int .i64 r) ∧ w' = w := by
  have e0 := bAt_eq hi
  have m1 : i + 1 < s.size := by omega
  have e1 := bAt_eq m1
  have l1 := bAt_lt s (i + 1)
  have m2 : i + 2 < s.size := by omega
  have e2 := bAt_eq m2
  have l2 := bAt_lt s (i + 2)
  generalize bAt s i = b0 at *
  generalize bAt s (i + 1) = b1 at *
  generalize bAt s (i + 2) = b2 at *
  go_enter Tryd.func17, Tryd.ntmps17
  go_wp2
  go_rounds 3
  all_goals (go_ret; refine ⟨ret_int ?_, rfl⟩; go_light; have h := HR.out; first | (rw [if_pos (by omega)] at h; omega) | (rw [if_neg (by omega)] at h; omega))


end Go.Proofs.YtmbkcmfcdjccoaaDoor

/- A character of four bytes. -/
namespace Go.Proofs.YtmbkcmfcdjccoaaDoor
open Go.RowKit

set_option maxRecDepth 100000 in
set_option maxHeartbeats 4000000 in
theorem utf8_full4 (s : ByteArray) (i : Nat) (w : World) (hs : s.size ≤ 1024) (hi : i < s.size) (h0 : 240 ≤ bAt s i) (h0b : bAt s i < 248) (hm : i + 4 ≤ s.size) (r : Nat) (HR : Hid ((if (4 ≤ s.size - i ∧ 128 ≤ bAt s (i + 1) ∧ bAt s (i + 1) < 192 ∧ 128 ≤ bAt s (i + 2) ∧ bAt s (i + 2) < 192 ∧ 128 ≤ bAt s (i + 3) ∧ bAt s (i + 3) < 192 ∧ 65536 ≤ 64 * (64 * (64 * (bAt s i - 240) + (bAt s (i + 1) - 128)) + (bAt s (i + 2) - 128)) + (bAt s (i + 3) - 128) ∧ 64 * (64 * (64 * (bAt s i - 240) + (bAt s (i + 1) - 128)) + (bAt s (i + 2) - 128)) + (bAt s (i + 3) - 128) ≤ 1114111) then 4 else 0) = r)) :
    Calls Tryd.prog 17 #[.string s, .int .i64 i] w fun e w' => e = .returned (.int .i64 r) ∧ w' = w := by
  have e0 := bAt_eq hi
  have m1 : i + 1 < s.size := by omega
  have e1 := bAt_eq m1
  have l1 := bAt_lt s (i + 1)
  have m2 : i + 2 < s.size := by omega
  have e2 := bAt_eq m2
  have l2 := bAt_lt s (i + 2)
  have m3 : i + 3 < s.size := by omega
  have e3 := bAt_eq m3
  have l3 := bAt_lt s (i + 3)
  generalize bAt s i = b0 at *
  generalize bAt s (i + 1) = b1 at *
  generalize bAt s (i + 2) = b2 at *
  generalize bAt s (i + 3) = b3 at *
  go_enter Tryd.func17, Tryd.ntmps17
  go_wp2
  go_rounds 4
  all_goals (go_ret; refine ⟨ret_int ?_, rfl⟩; go_light; have h := HR.out; first | (rw [if_pos (by omega)] at h; omega) | (rw [if_neg (by omega)] at h; omega))


end Go.Proofs.YtmbkcmfcdjccoaaDoor

/- Which texts are UTF-8: the document's Valid. -/
namespace Go.Proofs.YtmbkcmfcdjccoaaDoor
open Go.RowKit

def wAt (s : ByteArray) (i : Nat) : Nat := wN (s.size - i) (bAt s i) (bAt s (i + 1)) (bAt s (i + 2)) (bAt s (i + 3))

theorem utf8_any (s : ByteArray) (i : Nat) (w : World) (hs : s.size ≤ 1024) (hi : i < s.size) :
    Calls Tryd.prog 17 #[.string s, .int .i64 i] w fun e w' => e = .returned (.int .i64 (wAt s i)) ∧ w' = w := by
  unfold wAt
  by_cases c1 : bAt s i < 128
  · rw [w1 c1]
    exact utf8_one s i w hs hi c1
  by_cases c2 : bAt s i < 192 ∨ 248 ≤ bAt s i
  · rw [w0 (by omega) c2]
    exact utf8_zero s i w hs hi (by omega) c2
  by_cases c3 : bAt s i < 224
  · rw [w2 (by omega) c3]
    by_cases hm : i + 2 ≤ s.size
    · exact utf8_full2 s i w hs hi (by omega) c3 hm _ rfl
    · rw [if_neg (by omega)]
      exact utf8_short2 s i w hs hi (by omega) c3 (by omega)
  by_cases c4 : bAt s i < 240
  · rw [w3 (by omega) c4]
    by_cases hm : i + 3 ≤ s.size
    · exact utf8_full3 s i w hs hi (by omega) c4 hm _ rfl
    · rw [if_neg (by omega)]
      exact utf8_short3 s i w hs hi (by omega) c4 (by omega)
  · rw [w4 (by omega) (by omega)]
    by_cases hm : i + 4 ≤ s.size
    · exact utf8_full4 s i w hs hi (by omega) (by omega) hm _ rfl
    · rw [if_neg (by omega)]
      exact utf8_short4 s i w hs hi (by omega) (by omega) (by omega)

theorem size_data (s : ByteArray) : s.data.toList.length = s.size := by rw [Array.length_toList]; rfl
theorem bAt_drop (s : ByteArray) (i j : Nat) : ((s.data.toList.drop i).getD j 0).toNat = bAt s (i + j) := by
  unfold bAt
  rw [List.getD_eq_getElem?_getD, List.getD_eq_getElem?_getD, List.getElem?_drop]

theorem wN_le {m b0 b1 b2 b3 : Nat} (hm : 1 ≤ m) : wN m b0 b1 b2 b3 ≤ m := by
  unfold wN Lib.checkN
  repeat' split
  all_goals first | omega | (simp; omega) | simp

theorem valid_step (s : ByteArray) (i : Nat) (hi : i < s.size) : Lib.validD (s.data.toList.drop i) = if wAt s i = 0 then false else Lib.validD (s.data.toList.drop (i + wAt s i)) := by
  have hl : (s.data.toList.drop i).length = s.size - i := by rw [List.length_drop, size_data]
  have hne : s.data.toList.drop i ≠ [] := fun e => by rw [e] at hl; simp at hl; omega
  by_cases c1 : bAt s i < 128
  · have hw : wAt s i = 1 := w1 c1
    rw [hw, if_neg (by omega)]
    have h' : i < s.data.toList.length := by rw [size_data]; exact hi
    rw [List.drop_eq_getElem_cons h', Lib.validD_cons]
    have := bAt_eq hi
    rw [← this] at c1
    exact c1
  · have e0 : ((s.data.toList.drop i).getD 0 0).toNat = bAt s i := bAt_drop s i 0
    rw [Lib.validD_lead _ hne (by rw [e0]; omega), e0, bAt_drop, bAt_drop, bAt_drop, hl]
    have hw : wAt s i = (Lib.checkN (s.size - i) (bAt s (i + 1)) (bAt s (i + 2)) (bAt s (i + 3)) (Lib.firstT (bAt s i) % 8) (Lib.accLo (Lib.firstT (bAt s i) / 16)) (Lib.accHi (Lib.firstT (bAt s i) / 16))).getD 0 := by
      unfold wAt wN
      rw [if_neg c1]
    have hz : ∀ k, Lib.checkN (s.size - i) (bAt s (i + 1)) (bAt s (i + 2)) (bAt s (i + 3)) (Lib.firstT (bAt s i) % 8) (Lib.accLo (Lib.firstT (bAt s i) / 16)) (Lib.accHi (Lib.firstT (bAt s i) / 16)) = some k → k ≠ 0 := fun k => by
      unfold Lib.checkN
      repeat' split
      all_goals first | (intro h; cases h; omega) | (intro h; cases h)
    rw [hw]
    split
    · rename_i h
      rw [h]
      rfl
    · rename_i k h
      rw [h]
      simp [hz k h, List.drop_drop]

set_option maxRecDepth 100000 in
set_option maxHeartbeats 1000000 in
theorem valid_any (s : ByteArray) (w : World) (hs : s.size ≤ 1024) :
    Calls Tryd.prog 7 #[.string s] w fun e w' => e = .returned (.bool (Lib.validD s.data.toList)) ∧ w' = w := by
  go_enter Tryd.func7, Tryd.ntmps7
  go_wp2
  go_loop [3] (fun i => ∃ k : Nat, k ≤ s.size ∧ i = .int .i64 k ∧ Hid (Lib.validD (s.data.toList.drop k) = Lib.validD s.data.toList)) (fun i => s.size - (intOf i).toNat)
  case atStart => exact ⟨0, Nat.zero_le _, rfl, by show _ = _; rw [List.drop_zero]⟩
  case round =>
    obtain ⟨k, hk, rfl, hall⟩ := hrel
    by_cases hlt : k < s.size
    · have HS : Hid (Lib.validD (s.data.toList.drop k) = if wAt s k = 0 then false else Lib.validD (s.data.toList.drop (k + wAt s k))) := valid_step s k hlt
      have hwl : wAt s k ≤ s.size - k := wN_le (by omega)
      have hu := utf8_any s k w hs hlt
      generalize wAt s k = n at *
      by_cases hn : n = 0
      · subst hn
        go_wp2_with (go_at_call 17; refine hu.mono ?_; rintro e w' ⟨rfl, rfl⟩)
        go_ret
        refine ⟨ret_bool ?_, rfl⟩
        rw [← hall.out, HS.out]
        rfl
      · go_wp2_with (go_at_call 17; refine hu.mono ?_; rintro e w' ⟨rfl, rfl⟩)
        go_round
        case rel =>
          refine ⟨k + n, by omega, by go_num, ?_⟩
          show _ = _
          rw [← hall.out, HS.out, if_neg hn]
        case measure => simp [intOf]; omega
    · have HN : Hid (Lib.validD s.data.toList = true) := by
        show _ = _
        rw [← hall.out, List.drop_of_length_le (by rw [size_data]; omega)]
        rfl
      clear hall
      go_wp2
      go_ret
      exact ⟨ret_bool HN.out.symm, rfl⟩

end Go.Proofs.YtmbkcmfcdjccoaaDoor
