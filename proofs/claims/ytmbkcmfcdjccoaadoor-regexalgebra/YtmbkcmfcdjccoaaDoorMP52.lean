/- Texts that belong together. -/
import Derived.Test.YtmbkcmfcdjccoaaDoorMP49
import Derived.Test.YtmbkcmfcdjccoaaDoorYa
/- The wakes of regex's statements. -/
namespace Go.Proofs.YtmbkcmfcdjccoaaDoor
open Go.RowKit Go.Maps

def wkE : ByteArray := ⟨#[40, 97, 124, 97, 98, 41, 40, 99, 124, 98, 99, 100, 41]⟩
def wkX : Nd := match compR wkE with
  | .ok x _ => x
  | _ => .start
theorem wk1 : compR wkE = .ok wkX 2 := by kernel_rfl
theorem wk2 : groupsF wkX 2 ⟨#[97, 98, 99, 100]⟩ = some [0, 4, 0, 1, 1, 4] := by kernel_rfl
theorem wk3 : runF (progR wkX) ⟨#[97, 98, 99, 100, 101]⟩ false = none := by kernel_rfl
theorem known_of {s : ByteArray} {x : Nd} {g : Nat} (h : compR s = .ok x g) : PgK x g := by
  obtain ⟨-, h1, h2, h3, h4⟩ := comp_known h
  exact ⟨h1, h2, h3, h4⟩
theorem Fresh.lt {a b i : Nat} (h : Fresh a b i) : i < b := h.2
set_option maxRecDepth 100000 in
set_option maxHeartbeats 1000000 in
/-- Two slices that read alike are alike. -/
theorem ints_eq (b b2 n : Nat) (l : List Int) (w : World) (hn : l.length = n) (h : w.heap[b]? = some (.cells (l.map (Value.int .i64)).toArray 3)) (h2 : w.heap[b2]? = some (.cells (l.map (Value.int .i64)).toArray 3)) (hl : n ≤ 1000000) :
    Calls Tryd.prog 19 #[.slice (some ⟨b, 0, none⟩) n n, .slice (some ⟨b2, 0, none⟩) n n] w fun e w' => e = .returned (.bool true) ∧ ∃ q, w' = w.drewN q := by
  have HL : Hid (∀ (q k : Nat), k < n → ∃ x : Int, (w.drewN q).cell? ⟨b, k, none⟩ = some (.int .i64 x) ∧ (w.drewN q).cell? ⟨b2, k, none⟩ = some (.int .i64 x)) := fun q k hk => by
    refine ⟨l[k]'(by omega), ?_, ?_⟩
    · rw [cell_of_heap (w := w.drewN q) h]
      simp
    · rw [cell_of_heap (w := w.drewN q) h2]
      simp
  clear h h2 hn
  go_enter Tryd.func19, Tryd.ntmps19
  go_wp2
  go_loopw [5] (fun i wr => ∃ k q : Nat, k ≤ n ∧ i = .int .i64 k ∧ wr = w.drewN q) (fun i _ => n - (intOf i).toNat)
  case atStart => exact ⟨0, 0, Nat.zero_le _, rfl, rfl⟩
  case round =>
    obtain ⟨k, q, hk, rfl, rfl⟩ := hrel
    by_cases hlt : k < n
    · obtain ⟨x, g0, g1⟩ := HL.out q k hlt
      generalize hw : w.drewN q = wq at *
      have HW : Hid (w.drewN q = wq) := hw
      clear hw
      have hkl : (k : Int) < (n : Int) := by omega
      go_wp2_with fail
      go_quiet (fail)
      go_wp2
      go_roundw
      case rel => exact ⟨k + 1, q + nq, by omega, by go_num, by rw [← HW.out, drewN_drewN]⟩
      case measure => simp [intOf]; omega
    · have hkl : ¬ (k : Int) < (n : Int) := by omega
      go_wp2
      go_ret
      exact ⟨rfl, q, rfl⟩
set_option maxRecDepth 100000 in
set_option maxHeartbeats 1600000 in
theorem wakes_any (B : Nat) (w : World) (hE : Env8 w B) (hB : B ≤ w.heap.size) :
    Calls Tryd.prog 8 #[] w fun e w' => e = .returned (.bool true) ∧ Below w.heap.size w w' := by
  have hc := compile_any B wkE w hE hB
  rw [wk1] at hc
  have HC := hide hc
  have HE := hide hE
  clear hc hE
  go_enter Tryd.func8, Tryd.ntmps8
  go_wp2_with (first
    | (go_at_call 10; refine HC.out.mono ?_; clear HC; rintro e w1 ⟨hb, p, ms, rfl, hms, hpg⟩
       have HK : Hid (∀ W, Below w1.heap.size w1 W → PgS W (Fresh w.heap.size w1.heap.size) p wkX 2 ∧ Env8 W B ∧ B ≤ W.heap.size ∧ ∀ i, Fresh w.heap.size w1.heap.size i → i < W.heap.size) := fun W hW => ⟨PgS.below ⟨ms, hms, hpg⟩ (fun i hi => hi.2) hW, (HE.out.below (hb.mono hB)).below (hW.mono (Nat.le_trans hB hb.size)), Nat.le_trans hB (Nat.le_trans hb.size hW.size), fun i hi => Nat.lt_of_lt_of_le hi.2 hW.size⟩
       have HB := hide hb
       have HGR : Hid (Calls Tryd.prog 18 #[.pointer (some ⟨p, 0, none⟩), .string ⟨#[97, 98, 99, 100]⟩] w1 fun e w' => Below w1.heap.size w1 w' ∧ ∃ b, e = .returned (.tuple #[.slice (some ⟨b, 0, none⟩) 6 6, .bool true]) ∧ w'.heap[b]? = some (.cells (([0, 4, 0, 1, 1, 4] : List Int).map (Value.int .i64)).toArray 3)) := by
         obtain ⟨g1, g2, g3, g4⟩ := HK.out w1 (Below.refl _ _)
         have h9 := groups_any B p 2 _ wkX ⟨#[97, 98, 99, 100]⟩ w1 g1 (known_of wk1) g4 g2 g3 (by decide)
         rw [wk2] at h9
         refine h9.mono ?_
         rintro e w' ⟨h1, b, h2, h3, h4, h5⟩
         exact ⟨h1, b, h3, h4⟩
       have HMT : Hid (∀ W, Below w1.heap.size w1 W → Calls Tryd.prog 12 #[.pointer (some ⟨p, 0, none⟩), .string ⟨#[97, 98, 99, 100, 101]⟩] W fun e w' => e = .returned (.bool false) ∧ Below W.heap.size W w') := fun W hW => by
         obtain ⟨g1, g2, g3, g4⟩ := HK.out W hW
         have h9 := match_any B p 2 _ wkX ⟨#[97, 98, 99, 100, 101]⟩ W g1 (known_of wk1) g4 g2 g3 (by decide)
         rw [wk3] at h9
         exact h9
       have HCT : Hid (∀ W, Below w1.heap.size w1 W → Calls Tryd.prog 20 #[.pointer (some ⟨p, 0, none⟩)] W fun e w' => e = .returned (.int .i64 2) ∧ w' = W) := fun W hW => count_any p 2 _ wkX W (HK.out W hW).1
       clear hb hms hpg HK)
    | (go_at_call 18; refine HGR.out.mono ?_; clear HGR; rintro e w2 ⟨hb2, b, rfl, hrow⟩
       have HI : Hid (∀ W, W = w2.alloc (.cells #[.int .i64 0, .int .i64 4, .int .i64 0, .int .i64 1, .int .i64 1, .int .i64 4] 3) → Calls Tryd.prog 19 #[.slice (some ⟨b, 0, none⟩) 6 6, .slice (some ⟨w2.heap.size, 0, none⟩) 6 6] W fun e w' => e = .returned (.bool true) ∧ Below w1.heap.size w1 w') := fun W hW => by
         subst hW
         have hbl : b < w2.heap.size := (Array.getElem?_eq_some_iff.1 hrow).1
         refine (ints_eq b w2.heap.size 6 [0, 4, 0, 1, 1, 4] _ rfl ((Below.heap_alloc _ _ _ (by omega)).trans hrow) (heap_alloc_new _ _) (by decide)).mono ?_
         rintro e w' ⟨h1, q, rfl⟩
         exact ⟨h1, below_drewN (hb2.alloc hb2.size _) _⟩
       clear hb2 hrow)
    | (go_at_call 19; refine (HI.out _ rfl).mono ?_; clear HI; rintro e w3 ⟨rfl, hb3⟩; have HB3 := hide hb3; clear hb3)
    | (go_at_call 12; refine (HMT.out _ HB3.out).mono ?_; clear HMT; rintro e w4 ⟨rfl, hb4⟩; have HB4 := hide (HB3.out.trans (hb4.mono HB3.out.size)); clear hb4)
    | (go_at_call 20; refine (HCT.out _ HB4.out).mono ?_; clear HCT; rintro e w5 ⟨rfl, rfl⟩))
  go_ret
  exact ⟨rfl, HB.out.trans (HB4.out.mono HB.out.size)⟩
end Go.Proofs.YtmbkcmfcdjccoaaDoor

/- Which names are right, by the document. -/
namespace Go.Proofs.YtmbkcmfcdjccoaaDoor
open Go.RowKit

def okc (colons : Bool) (i : Nat) (c : Int) : Bool := decide (97 ≤ c ∧ c ≤ 122) || decide (65 ≤ c ∧ c ≤ 90) || decide (c = 95) || (decide (48 ≤ c ∧ c ≤ 57) && decide (0 < i)) || (decide (c = 58) && colons)
def upTo (colons : Bool) (s : ByteArray) (k : Nat) : Prop := ∀ i (h : i < s.size), i < k → okc colons i s[i].toNat = true
def wd (colons : Bool) (s : ByteArray) : Bool := decide (1 ≤ s.size ∧ s.size ≤ 1024) && decide (∀ i (h : i < s.size), okc colons i s[i].toNat = true)

theorem wd_bad {b : Bool} {s : ByteArray} (h : ¬ (1 ≤ s.size ∧ s.size ≤ 1024)) : wd b s = false := by simp [wd, h]
theorem wd_no {b : Bool} {s : ByteArray} (i : Nat) (h : i < s.size) (hc : okc b i s[i].toNat = false) : wd b s = false := by
  unfold wd
  rw [Bool.and_eq_false_iff]
  right
  rw [decide_eq_false_iff_not]
  intro hall
  have := hall i h
  rw [hc] at this
  cases this
theorem wd_ok {b : Bool} {s : ByteArray} (h1 : 1 ≤ s.size) (h2 : s.size ≤ 1024) (h : upTo b s s.size) : wd b s = true := by
  unfold wd
  rw [Bool.and_eq_true]
  exact ⟨by simp [h1, h2], by rw [decide_eq_true_iff]; exact fun i hi => h i hi hi⟩
theorem upTo_succ {b : Bool} {s : ByteArray} {k : Nat} (h : upTo b s k) (hk : k < s.size) (hc : okc b k s[k].toNat = true) : upTo b s (k + 1) := fun i hi hlt => by
  rcases Nat.lt_succ_iff_lt_or_eq.1 hlt with h1 | h1
  · exact h i hi h1
  · subst h1
    exact hc
theorem size_toList (s : ByteArray) : s.toList.length = s.size := by rw [ByteArray.toList_eq]; simp
theorem not_nil {s : ByteArray} (h : 1 ≤ s.size) : ¬ s.toList = [] := fun e => by
  have := size_toList s
  rw [e] at this
  simp at this
  omega
theorem not_empty {s : ByteArray} (h : 1 ≤ s.size) : s.toList.isEmpty = false := by
  have := not_nil h
  cases hs : s.toList
  · exact absurd hs this
  · rfl
theorem is_nil {s : ByteArray} (h : s.size = 0) : s.toList = [] := List.eq_nil_of_length_eq_zero (by rw [size_toList, h])
theorem is_empty {s : ByteArray} (h : s.size = 0) : s.toList.isEmpty = true := by rw [is_nil h]; rfl
theorem upTo_zero {b : Bool} {s : ByteArray} : upTo b s 0 := fun _i _ h => absurd h (Nat.not_lt_zero _)

end Go.Proofs.YtmbkcmfcdjccoaaDoor
