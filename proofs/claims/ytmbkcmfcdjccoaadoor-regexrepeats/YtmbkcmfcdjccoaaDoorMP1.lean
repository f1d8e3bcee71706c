/- Texts that belong together. -/
import Derived.Test.YtmbkcmfcdjccoaaDoorP0
import Derived.Test.YtmbkcmfcdjccoaaDoorYa
/- The reader of an expression: its bytes. -/
namespace Go.Proofs.YtmbkcmfcdjccoaaDoor
open Go.RowKit Go.Maps

theorem ret_bo {a b : Bool} (h : a = b) : Ending.returned (.bool a) = .returned (.bool b) := by rw [h]
theorem u8_eq {c d : UInt8} : ((c.toNat : Int) == (d.toNat : Int)) = (c == d) := by
  rw [Bool.eq_iff_iff, beq_iff_eq, beq_iff_eq, ← UInt8.toNat_inj]
  omega
theorem byteAt (s : ByteArray) (k : Nat) (h : k < s.size) : s.data.toList[k]'(by simpa using h) = s[k] := by
  rw [Array.getElem_toList]
  rfl
theorem len_list (s : ByteArray) : s.data.toList.length = s.size := by simp
theorem at_some {s : ByteArray} {i : Nat} (h : i < s.size) : s.data.toList[i]? = some s[i] := by rw [List.getElem?_eq_getElem (by rw [len_list]; exact h), byteAt s i h]
theorem at_none {s : ByteArray} {i : Nat} (h : s.size ≤ i) : s.data.toList[i]? = none := List.getElem?_eq_none (by rw [len_list]; exact h)
theorem seesB_lt {s : ByteArray} {i : Nat} {c : UInt8} (h : seesB s i c = true) : i < s.size := by
  unfold seesB at h
  by_cases hl : i < s.size
  · exact hl
  · rw [at_none (by omega)] at h
    simp at h
theorem seesB_at {s : ByteArray} {i : Nat} (h : i < s.size) (c : UInt8) : seesB s i c = (s[i] == c) := by
  unfold seesB
  rw [at_some h]
  rfl
theorem seesB_end {s : ByteArray} {i : Nat} (h : s.size ≤ i) (c : UInt8) : seesB s i c = false := by
  unfold seesB
  rw [at_none h]
  rfl
/-- The reader in a block: the text, the place, the groups so far. -/
def RdAt (w : World) (U : Nat) (s : ByteArray) (i g : Nat) : Prop := w.heap[U]? = some (.cells #[.string s, .int .i64 i, .int .i64 g] 58)
section
variable {w W : World} {U : Nat} {s : ByteArray} {i g : Nat}
theorem RdAt.c0 (h : RdAt w U s i g) : w.cell? ⟨U, 0, none⟩ = some (.string s) := by rw [cell_of_heap h]; rfl
theorem RdAt.c1 (h : RdAt w U s i g) : w.cell? ⟨U, 1, none⟩ = some (.int .i64 i) := by rw [cell_of_heap h]; rfl
theorem RdAt.c2 (h : RdAt w U s i g) : w.cell? ⟨U, 2, none⟩ = some (.int .i64 g) := by rw [cell_of_heap h]; rfl
theorem RdAt.f1 (h : RdAt w U s i g) : w.frozen? ⟨U, 1, none⟩ = false := frozen_of_heap h
theorem RdAt.f2 (h : RdAt w U s i g) : w.frozen? ⟨U, 2, none⟩ = false := frozen_of_heap h
theorem RdAt.lt (h : RdAt w U s i g) : U < w.heap.size := (Array.getElem?_eq_some_iff.1 h).1
theorem RdAt.drewN (h : RdAt w U s i g) (q : Nat) : RdAt (w.drewN q) U s i g := h
theorem RdAt.set1 (h : RdAt w U s i g) (j : Nat) {v : Value} (hv : v = .int .i64 j) : RdAt (w.setCell ⟨U, 1, none⟩ v) U s j g := by
  subst hv
  unfold RdAt
  rw [heap_setCell_same h]
  rfl
theorem RdAt.set2 (h : RdAt w U s i g) (j : Nat) {v : Value} (hv : v = .int .i64 j) : RdAt (w.setCell ⟨U, 2, none⟩ v) U s i j := by
  subst hv
  unfold RdAt
  rw [heap_setCell_same h]
  rfl
theorem RdAt.below {B : Nat} (h : RdAt w U s i g) (hb : Below B w W) (hU : U < B) : RdAt W U s i g := (hb.block _ hU).trans h
theorem Kept.un (w : World) (U i : Nat) (u : Value) : Kept (fun k => k = U) w (w.setCell ⟨U, i, none⟩ u) := (Kept.refl (fun k => k = U) w).setCell (p := ⟨U, i, none⟩) (fun _ => rfl) u
theorem Kept.two {a b c : World} (h : Kept (fun k => k = U) a b) (k : Kept (fun k => k = U) b c) : Kept (fun k => k = U) a c := h.trans k (fun _ _ h => h)
end

set_option maxRecDepth 100000 in
set_option maxHeartbeats 1000000 in
theorem sees_any (U : Nat) (s : ByteArray) (i g : Nat) (c : UInt8) (w : World) (h : RdAt w U s i g) (_hs : s.size ≤ 1000000) : Calls Tryd.prog 44 #[.pointer (some ⟨U, 0, none⟩), .int .u8 c.toNat] w fun e w' => e = .returned (.bool (seesB s i c)) ∧ ∃ q, w' = w.drewN q := by
  have c0 := h.c0
  have c1 := h.c1
  have hc : c.toNat < 256 := c.toNat_lt
  clear h
  by_cases hlt : i < s.size
  · rw [seesB_at hlt]
    have hb : s[i].toNat < 256 := s[i].toNat_lt
    have hq : ((s[i].toNat : Int) == (c.toNat : Int)) = (s[i] == c) := u8_eq
    have hi : (i : Int) < s.size := by omega
    generalize (s[i] == c) = B at *
    generalize c.toNat = cN at *
    cases B
    · go_enter Tryd.func44, Tryd.ntmps44
      go_wp2
      go_quiet (fail)
      go_wp2
      go_ret
      exact ⟨rfl, _, rfl⟩
    · go_enter Tryd.func44, Tryd.ntmps44
      go_wp2
      go_quiet (fail)
      go_wp2
      go_ret
      exact ⟨rfl, _, rfl⟩
  · rw [seesB_end (by omega)]
    have hi : ¬ (i : Int) < s.size := by omega
    generalize c.toNat = cN at *
    go_enter Tryd.func44, Tryd.ntmps44
    go_wp2
    go_quiet (fail)
    go_wp2
    go_ret
    exact ⟨rfl, _, rfl⟩

/-- Behind a byte, if it stands there. -/
def overB (s : ByteArray) (i : Nat) (c : UInt8) : Nat := if seesB s i c = true then i + 1 else i
theorem overB_le {s : ByteArray} {i : Nat} (h : i ≤ s.size) (c : UInt8) : overB s i c ≤ s.size := by
  unfold overB
  split
  · rename_i h2
    have := seesB_lt h2
    omega
  · exact h
set_option maxRecDepth 100000 in
set_option maxHeartbeats 1000000 in
theorem skip_any (U : Nat) (s : ByteArray) (i g : Nat) (c : UInt8) (w : World) (h : RdAt w U s i g) (hs : s.size ≤ 1000000) : Calls Tryd.prog 33 #[.pointer (some ⟨U, 0, none⟩), .int .u8 c.toNat] w fun e w' => e = .returned (.bool (seesB s i c)) ∧ RdAt w' U s (overB s i c) g ∧ Kept (fun k => k = U) w w' := by
  have HS := sees_any U s i g c w h hs
  have HR : Hid (RdAt w U s i g) := h
  have hc : c.toNat < 256 := c.toNat_lt
  unfold overB
  clear h
  cases hB : seesB s i c with
  | false =>
    rw [hB] at HS
    generalize c.toNat = cN at *
    clear hB
    go_enter Tryd.func33, Tryd.ntmps33
    go_wp2_with (go_at_call 44; refine HS.mono ?_; clear HS; rintro e w1 ⟨rfl, q, rfl⟩)
    go_ret
    exact ⟨rfl, HR.out.drewN q, (Kept.refl _ w).drewN q⟩
  | true =>
    rw [hB] at HS
    have hlt := seesB_lt hB
    generalize c.toNat = cN at *
    clear hB
    go_enter Tryd.func33, Tryd.ntmps33
    go_wp2_with (go_at_call 44; refine HS.mono ?_; clear HS; rintro e w1 ⟨rfl, q, hw⟩; have c1 : w1.cell? ⟨U, 1, none⟩ = some (.int .i64 i) := (by rw [hw]; exact (HR.out.drewN q).c1); have f1 : w1.frozen? ⟨U, 1, none⟩ = false := (by rw [hw]; exact (HR.out.drewN q).f1); have HR1 : Hid (RdAt w1 U s i g ∧ Kept (fun k => k = U) w w1) := (by rw [hw]; exact ⟨HR.out.drewN q, (Kept.refl _ w).drewN q⟩); clear hw)
    go_ret
    exact ⟨rfl, HR1.out.1.set1 (i + 1) (by go_num), HR1.out.2.two (Kept.un _ U 1 _)⟩
end Go.Proofs.YtmbkcmfcdjccoaaDoor

/- Spans of characters: the classes of letters, all others. -/
namespace Go.Proofs.YtmbkcmfcdjccoaaDoor
open Go.RowKit Go.Maps

/-- A row's cells. -/
def spC (l : List Sp) : List Value := l.flatMap fun s => [.int .i32 s.1, .int .i32 s.2]
theorem spC_append (l m : List Sp) : spC (l ++ m) = spC l ++ spC m := by simp [spC]
theorem spC_length (l : List Sp) : (spC l).length = l.length * 2 := by
  induction l with
  | nil => rfl
  | cons a t ih => rw [show spC (a :: t) = [.int .i32 a.1, .int .i32 a.2] ++ spC t from rfl, List.length_append, ih]; simp; omega
theorem spC_get : ∀ (l : List Sp) (k : Nat) (h : k < l.length), (spC l)[k * 2]? = some (.int .i32 l[k].1) ∧ (spC l)[k * 2 + 1]? = some (.int .i32 l[k].2)
  | [], k, h => absurd h (Nat.not_lt_zero _)
  | a :: t, 0, h => ⟨rfl, rfl⟩
  | a :: t, k + 1, h => by
    have ih := spC_get t k (by simpa using h)
    have e : ∀ j, (spC (a :: t))[j + 2]? = (spC t)[j]? := fun j => rfl
    rw [show (k + 1) * 2 = k * 2 + 2 by omega, show k * 2 + 2 + 1 = (k * 2 + 1) + 2 by omega, e, e]
    exact ih
theorem spC_one (l : List Sp) : ∀ u ∈ spC l, u.oneCell' = true := by
  intro u hu
  obtain ⟨s, -, hs⟩ := List.mem_flatMap.1 hu
  rcases List.mem_cons.1 hs with rfl | hs
  · rfl
  · rw [List.mem_singleton.1 hs]; rfl
/-- A row of one's own that holds these spans. -/
def SpR (w : World) (base : Nat) (v : Value) (l : List Sp) : Prop := w.ownsRow base 104 2 v l.length (spC l)
theorem SpR.nil (w : World) (base : Nat) : SpR w base (.slice none 0 0) [] := World.ownsRow_nil _ _ _ _
theorem SpR.lit (w : World) (l : List Sp) (hl : l.length ≤ 1000000) : SpR (w.alloc (.cells (spC l).toArray 104)) w.heap.size (.slice (some ⟨w.heap.size, 0, none⟩) l.length l.length) l :=
  ⟨spC_length l, Or.inr ⟨w.heap.size, l.length, (spC l).toArray, rfl, Nat.le_refl _, heap_alloc_new w _, Nat.le_refl _, by unfold maxLen; omega, by rw [List.size_toArray, spC_length], by rw [← spC_length]; simp⟩⟩
theorem SpR.below {w w' : World} {base : Nat} {v : Value} {l : List Sp} (h : SpR w base v l) (hb : Below w.heap.size w w') : SpR w' base v l := row_below h hb
theorem SpR.mono {w : World} {base base' : Nat} {v : Value} {l : List Sp} (h : SpR w base v l) (hb : base' ≤ base) : SpR w base' v l := row_mono h hb
theorem appSp : App Tryd.prog 62 104 2 := App.of (z := .agg #[.int .i32 0, .int .i32 0]) (bytes := 8) Tryd.underlying62 (by kernel_rfl) rfl (by decide) (by decide)
/-- A literal of one span. -/
theorem lone (w : World) (a b : Int) {m : Nat} (h : w.heap.size = m) : RowAt (w.alloc (.cells #[.int .i32 a, .int .i32 b] 104)) (.slice (some ⟨m, 0, none⟩) 1 1) 2 1 (spC [(a, b)]) := by
  subst h
  exact RowAt.of_block (cs := #[.int .i32 a, .int .i32 b]) (heap_alloc_new w _) rfl (by decide)

set_option maxRecDepth 100000 in
theorem digits_any (w : World) : Calls Tryd.prog 71 #[] w fun e w' => ∃ v, e = .returned v ∧ SpR w' w.heap.size v digS ∧ Below w.heap.size w w' := by
  have HR : Hid (SpR (w.alloc (.cells (spC digS).toArray 104)) w.heap.size (.slice (some ⟨w.heap.size, 0, none⟩) 1 1) digS) := SpR.lit w digS (by decide)
  go_enter Tryd.func71, Tryd.ntmps71
  go_wp2
  go_ret
  exact ⟨_, rfl, HR.out, (Below.refl _ _).alloc (Nat.le_refl _) _⟩
set_option maxRecDepth 100000 in
theorem words_any (w : World) : Calls Tryd.prog 72 #[] w fun e w' => ∃ v, e = .returned v ∧ SpR w' w.heap.size v wordS ∧ Below w.heap.size w w' := by
  have HR : Hid (SpR (w.alloc (.cells (spC wordS).toArray 104)) w.heap.size (.slice (some ⟨w.heap.size, 0, none⟩) 4 4) wordS) := SpR.lit w wordS (by decide)
  go_enter Tryd.func72, Tryd.ntmps72
  go_wp2
  go_ret
  exact ⟨_, rfl, HR.out, (Below.refl _ _).alloc (Nat.le_refl _) _⟩
set_option maxRecDepth 100000 in
theorem blanks_any (w : World) : Calls Tryd.prog 73 #[] w fun e w' => ∃ v, e = .returned v ∧ SpR w' w.heap.size v blankS ∧ Below w.heap.size w w' := by
  have HR : Hid (SpR (w.alloc (.cells (spC blankS).toArray 104)) w.heap.size (.slice (some ⟨w.heap.size, 0, none⟩) 3 3) blankS) := SpR.lit w blankS (by decide)
  go_enter Tryd.func73, Tryd.ntmps73
  go_wp2
  go_ret
  exact ⟨_, rfl, HR.out, (Below.refl _ _).alloc (Nat.le_refl _) _⟩
set_option maxRecDepth 100000 in
theorem every_any (w : World) : Calls Tryd.prog 56 #[] w fun e w' => ∃ v, e = .returned v ∧ SpR w' w.heap.size v [(0, maxR)] ∧ Below w.heap.size w w' := by
  have HR : Hid (SpR (w.alloc (.cells (spC [(0, maxR)]).toArray 104)) w.heap.size (.slice (some ⟨w.heap.size, 0, none⟩) 1 1) [(0, maxR)]) := SpR.lit w [(0, maxR)] (by decide)
  go_enter Tryd.func56, Tryd.ntmps56
  go_wp2
  go_ret
  exact ⟨_, rfl, HR.out, (Below.refl _ _).alloc (Nat.le_refl _) _⟩
set_option maxRecDepth 100000 in
theorem only_any (c : Int) (w : World) : Calls Tryd.prog 58 #[.int .i32 c] w fun e w' => ∃ v, e = .returned v ∧ SpR w' w.heap.size v [(c, c)] ∧ Below w.heap.size w w' := by
  have HR : Hid (SpR (w.alloc (.cells (spC [(c, c)]).toArray 104)) w.heap.size (.slice (some ⟨w.heap.size, 0, none⟩) 1 1) [(c, c)]) := SpR.lit w [(c, c)] (by simp)
  go_enter Tryd.func58, Tryd.ntmps58
  go_wp2
  go_ret
  exact ⟨_, rfl, HR.out, (Below.refl _ _).alloc (Nat.le_refl _) _⟩

/-- All spans are of characters. -/
def In32 (l : List Sp) : Prop := ∀ s ∈ l, 0 ≤ s.1 ∧ s.1 ≤ maxR ∧ 0 ≤ s.2 ∧ s.2 ≤ maxR
/-- What stands ahead of the spans from a place on. -/
def aheadS : List Sp → Int → List Sp × Int
  | [], f => ([], f)
  | s :: t, f => ((if f < s.1 then [(f, s.1 - 1)] else []) ++ (aheadS t (s.2 + 1)).1, (aheadS t (s.2 + 1)).2)
theorem otherS_ahead : ∀ (l : List Sp) (f : Int), otherS l f = (aheadS l f).1 ++ (if (aheadS l f).2 ≤ maxR then [((aheadS l f).2, maxR)] else [])
  | [], f => rfl
  | s :: t, f => by
    unfold otherS aheadS
    rw [otherS_ahead t, List.append_assoc]
theorem aheadS_push : ∀ (l : List Sp) (x : Sp) (f : Int), aheadS (l ++ [x]) f = ((aheadS l f).1 ++ (if (aheadS l f).2 < x.1 then [((aheadS l f).2, x.1 - 1)] else []), x.2 + 1)
  | [], x, f => by
    show ((if f < x.1 then [(f, x.1 - 1)] else []) ++ [], x.2 + 1) = _
    rw [List.append_nil]
    rfl
  | s :: t, x, f => by
    rw [List.cons_append]
    unfold aheadS
    rw [aheadS_push t x]
    simp
theorem aheadS_take (l : List Sp) (k : Nat) (h : k < l.length) (f : Int) : aheadS (l.take (k + 1)) f = ((aheadS (l.take k) f).1 ++ (if (aheadS (l.take k) f).2 < l[k].1 then [((aheadS (l.take k) f).2, l[k].1 - 1)] else []), l[k].2 + 1) := by
  rw [List.take_succ_eq_append_getElem h, aheadS_push]
theorem aheadS_len : ∀ (l : List Sp) (f : Int), (aheadS l f).1.length ≤ l.length
  | [], f => Nat.zero_le _
  | s :: t, f => by
    have := aheadS_len t (s.2 + 1)
    unfold aheadS
    rw [List.length_append, List.length_cons]
    split <;> simp <;> omega
theorem aheadS_in {l : List Sp} (h : In32 l) : ∀ f, 0 ≤ f → f ≤ maxR + 1 → 0 ≤ (aheadS l f).2 ∧ (aheadS l f).2 ≤ maxR + 1 := by
  induction l with
  | nil => intro f h1 h2; exact ⟨h1, h2⟩
  | cons s t ih =>
    intro f h1 h2
    have hs := h s (by simp)
    exact ih (fun x hx => h x (by simp [hx])) (s.2 + 1) (by omega) (by omega)

theorem SpR.grown {B : Nat} {w wr w1 : World} {v : Value} {l : List Sp} (h : SpR wr B v l) (hb : Below B w wr) (hB : B ≤ w.heap.size) (hg : wr.grownBy w1 v.ownBlock) : Below B w w1 :=
  hb.grown hg (Nat.le_trans hB hb.size) (fun j hj => (h.lt j hj).1)
set_option maxRecDepth 100000 in
set_option maxHeartbeats 2000000 in
theorem others_any (v : Value) (l : List Sp) (w : World) (h : RowAt w v 2 l.length (spC l)) (hin : In32 l) (hl : l.length ≤ 100000) :
    Calls Tryd.prog 63 #[v] w fun e w' => ∃ v', e = .returned v' ∧ SpR w' w.heap.size v' (otherS l 0) ∧ Below w.heap.size w w' := by
  obtain ⟨a, c, rfl, hc1, hc2⟩ := h.sub
  have HL : Hid (RowAt w (.slice a l.length c) 2 l.length (spC l)) := h
  have HIN : Hid (In32 l) := hin
  unfold maxLen at hc2
  clear h hin
  go_enter Tryd.func63, Tryd.ntmps63
  go_wp2
  go_loopw [3, 4, 9] (fun ov fv iv wr => ∃ (k : Nat) (oa : Option Addr) (n oc : Nat), k ≤ l.length ∧ n = (aheadS (l.take k) 0).1.length ∧ iv = .int .i64 k ∧ fv = .int .i32 (aheadS (l.take k) 0).2 ∧ ov = .slice oa n oc ∧ Hid (SpR wr w.heap.size (.slice oa n oc) (aheadS (l.take k) 0).1) ∧ Hid (Below w.heap.size w wr)) (fun _ _ i _ => l.length - (intOf i).toNat)
  case atStart => exact ⟨0, none, 0, 0, Nat.zero_le _, rfl, rfl, rfl, rfl, SpR.nil _ _, Below.refl _ _⟩
  case round =>
    obtain ⟨k, oa, n, oc, hk, hn, rfl, rfl, rfl, HR, HB⟩ := hrel
    obtain ⟨F, hF⟩ : ∃ F, F = (aheadS (l.take k) 0).2 := ⟨_, rfl⟩
    obtain ⟨R, hR⟩ : ∃ R, R = (aheadS (l.take k) 0).1 := ⟨_, rfl⟩
    have hF1 := aheadS_in (l := l.take k) (fun s hs => HIN.out s (List.mem_of_mem_take hs)) 0 (by decide) (by decide)
    have hRl : R.length ≤ k := by
      have := aheadS_len (l.take k) 0
      rw [hR, List.length_take] at *
      omega
    rw [← hF] at hF1
    rw [← hR] at HR hn
    subst hn
    have HFR : Hid (F = (aheadS (l.take k) 0).2 ∧ R = (aheadS (l.take k) 0).1) := ⟨hF, hR⟩
    rw [← hF]
    clear hF hR
    unfold maxR at hF1
    by_cases hlt : k < l.length
    · have hlti : (k : Int) < l.length := by omega
      obtain ⟨b, o, rfl, g0⟩ := HL.out.one (spC_get l k hlt).1
      obtain ⟨b', o', e', g1⟩ := HL.out.one (spC_get l k hlt).2
      cases e'
      have hx := HIN.out l[k] (List.getElem_mem _)
      have h0 := g0 wr HB.out
      have h1 := g1 wr HB.out
      rw [← Nat.add_assoc] at h1
      have HT := aheadS_take l k hlt 0
      rw [← HFR.out.1, ← HFR.out.2] at HT
      clear g0 g1
      generalize l[k] = X at *
      obtain ⟨x, y⟩ := X
      dsimp only at hx h0 h1 HT
      have HT2 : Hid _ := HT
      unfold maxR at hx
      clear HT HFR
      have HB1 : Hid (Below w.heap.size w (wr.alloc (.cells #[.int .i32 x, .int .i32 y] 104))) := HB.out.alloc HB.out.size _
      by_cases hfx : F < x
      · have HB2 : Hid (Below w.heap.size w ((wr.alloc (.cells #[.int .i32 x, .int .i32 y] 104)).alloc (.cells #[.int .i32 F, .int .i32 (x - 1)] 104))) := HB1.out.alloc HB1.out.size _
        have HR2 : Hid (SpR ((wr.alloc (.cells #[.int .i32 x, .int .i32 y] 104)).alloc (.cells #[.int .i32 F, .int .i32 (x - 1)] 104)) w.heap.size (.slice oa R.length oc) R) := (HR.out.below ((Below.refl _ _).alloc (Nat.le_refl _) _)).below ((Below.refl _ _).alloc (Nat.le_refl _) _)
        have HR2n : Hid (((wr.alloc (.cells #[.int .i32 x, .int .i32 y] 104)).alloc (.cells #[.int .i32 F, .int .i32 (x - 1)] 104)).ownsRow w.heap.size 104 2 (.slice oa R.length oc) R.length (spC R)) := by
          exact HR2.out
        have HBX : Hid (∀ w5, ((wr.alloc (.cells #[.int .i32 x, .int .i32 y] 104)).alloc (.cells #[.int .i32 F, .int .i32 (x - 1)] 104)).grownBy w5 (Value.slice oa R.length oc).ownBlock → w5.cell? ⟨wr.heap.size, 1, none⟩ = some (.int .i32 y)) := fun w5 hg => by
          have e1 : ((wr.alloc (.cells #[.int .i32 x, .int .i32 y] 104)).alloc (.cells #[.int .i32 F, .int .i32 (x - 1)] 104)).heap[wr.heap.size]? = some (.cells #[.int .i32 x, .int .i32 y] 104) := (((Below.refl _ _).alloc (Nat.le_refl _) (.cells #[.int .i32 F, .int .i32 (x - 1)] 104)).block wr.heap.size (by simp)).trans (heap_alloc_new wr _)
          have e2 := (hg.block wr.heap.size (by simp; omega) (fun hj => by have := (HR.out.lt _ hj.symm).2; omega)).trans e1
          rw [cell_of_heap e2]
          rfl
        clear HR HB HB1
        go_wp2_with (at_builtin; refine wpList_append_row appSp _ rfl _ _ rfl w.heap.size (.slice oa R.length oc) R.length (spC R) rfl HR2n.out _ 1 (spC [(F, x - 1)]) rfl (lone _ F (x - 1) (by simp)) (spC_one _) (by omega) HB2.out.size ?_; intro a5 c5 w5 hr5 hg5 hw5; have z1 := HBX.out w5 hg5; have HB5 : Hid (Below w.heap.size w w5) := HR2.out.grown HB2.out (Nat.le_refl _) hg5; have HR5 : Hid (SpR w5 w.heap.size (.slice a5 (R.length + 1) c5) (R ++ [(F, x - 1)])) := (by show World.ownsRow _ _ _ _ _ _ _; rw [List.length_append, spC_append]; exact hr5); clear hr5 hg5 hw5)
        go_roundw
        case rel => exact ⟨k + 1, a5, R.length + 1, c5, by omega, by rw [HT2.out, if_pos hfx, List.length_append]; rfl, by go_num, by rw [HT2.out], rfl, by rw [HT2.out, if_pos hfx]; exact HR5, HB5⟩
        case measure => simp [intOf]; omega
      · clear HB
        go_wp2
        go_roundw
        case rel => exact ⟨k + 1, oa, R.length, oc, by omega, by rw [HT2.out, if_neg hfx, List.append_nil], by go_num, by rw [HT2.out], rfl, by rw [HT2.out, if_neg hfx, List.append_nil]; exact HR.out.below ((Below.refl _ _).alloc (Nat.le_refl _) _), HB1⟩
        case measure => simp [intOf]; omega
    · obtain rfl : k = l.length := by omega
      rw [List.take_length] at HFR
      have HO := otherS_ahead l 0
      rw [← HFR.out.1, ← HFR.out.2] at HO
      have HO2 : Hid _ := HO
      clear HO HFR HIN
      by_cases hfm : F ≤ 1114111
      · have HB2 : Hid (Below w.heap.size w (wr.alloc (.cells #[.int .i32 F, .int .i32 1114111] 104))) := HB.out.alloc HB.out.size _
        have HR2 : Hid (SpR (wr.alloc (.cells #[.int .i32 F, .int .i32 1114111] 104)) w.heap.size (.slice oa R.length oc) R) := HR.out.below ((Below.refl _ _).alloc (Nat.le_refl _) _)
        have HR2n : Hid ((wr.alloc (.cells #[.int .i32 F, .int .i32 1114111] 104)).ownsRow w.heap.size 104 2 (.slice oa R.length oc) R.length (spC R)) := by
          exact HR2.out
        clear HR HB
        go_wp2_with (at_builtin; refine wpList_append_row appSp _ rfl _ _ rfl w.heap.size (.slice oa R.length oc) R.length (spC R) rfl HR2n.out _ 1 (spC [(F, 1114111)]) rfl (lone _ F 1114111 (by simp)) (spC_one _) (by omega) HB2.out.size ?_; intro a5 c5 w5 hr5 hg5 hw5; have HB5 : Hid (Below w.heap.size w w5) := HR2.out.grown HB2.out (Nat.le_refl _) hg5; have HR5 : Hid (SpR w5 w.heap.size (.slice a5 (R.length + 1) c5) (R ++ [(F, 1114111)])) := (by show World.ownsRow _ _ _ _ _ _ _; rw [List.length_append, spC_append]; exact hr5); clear hr5 hg5 hw5)
        go_ret
        refine ⟨.slice a5 (R.length + 1) c5, rfl, ?_, HB5.out⟩
        rw [HO2.out, if_pos (by unfold maxR; exact hfm)]
        exact HR5.out
      · go_wp2
        go_ret
        refine ⟨.slice oa R.length oc, rfl, ?_, HB.out⟩
        rw [HO2.out, if_neg (by unfold maxR; omega), List.append_nil]
        exact HR.out
end Go.Proofs.YtmbkcmfcdjccoaaDoor

/- What single bytes stand for. -/
namespace Go.Proofs.YtmbkcmfcdjccoaaDoor
open Go.RowKit Go.Maps

/-- The bytes that do not stand for themselves. -/
def specN (n : Nat) : Prop := n = 92 ∨ n = 46 ∨ n = 43 ∨ n = 42 ∨ n = 63 ∨ n = 40 ∨ n = 41 ∨ n = 124 ∨ n = 91 ∨ n = 93 ∨ n = 123 ∨ n = 125 ∨ n = 94 ∨ n = 36
instance (n : Nat) : Decidable (specN n) := by unfold specN; infer_instance
theorem spec_tab : ∀ n : Fin 256, specB (UInt8.ofNat n.val) = decide (specN n.val) := by decide +kernel
theorem specB_iff (c : UInt8) : specB c = decide (specN c.toNat) := by
  have h := spec_tab ⟨c.toNat, c.toNat_lt⟩
  rw [UInt8.ofNat_toNat] at h
  exact h

set_option maxRecDepth 100000 in
set_option maxHeartbeats 1000000 in
theorem special_any (c : UInt8) (w : World) : Calls Tryd.prog 22 #[.int .u8 c.toNat] w fun e w' => e = .returned (.bool (specB c)) ∧ w' = w := by
  rw [specB_iff]
  have hc : c.toNat < 256 := c.toNat_lt
  generalize c.toNat = n at *
  go_enter Tryd.func22, Tryd.ntmps22
  go_wp2
  all_goals
    go_ret
    simp only [beq_iff_eq, beq_eq_false_iff_ne, ne_eq] at *
    first
      | exact ⟨ret_bo (decide_eq_true (p := specN n) (by unfold specN; omega)).symm, by first | rfl | trivial⟩
      | exact ⟨ret_bo (decide_eq_false (p := specN n) (by unfold specN; omega)).symm, by first | rfl | trivial⟩

/-- The character behind a backslash. -/
theorem esc_tab : ∀ n : Fin 256, escB (UInt8.ofNat n.val) = if n.val = 110 then some 10 else if n.val = 116 then some 9 else if n.val = 114 then some 13 else if n.val = 45 ∨ n.val = 47 ∨ n.val = 34 ∨ n.val = 39 ∨ n.val = 32 then some (n.val : Int) else if specN n.val then some (n.val : Int) else none := by decide +kernel
theorem escB_iff (c : UInt8) : escB c = if c.toNat = 110 then some 10 else if c.toNat = 116 then some 9 else if c.toNat = 114 then some 13 else if c.toNat = 45 ∨ c.toNat = 47 ∨ c.toNat = 34 ∨ c.toNat = 39 ∨ c.toNat = 32 then some (c.toNat : Int) else if specN c.toNat then some (c.toNat : Int) else none := by
  have h := esc_tab ⟨c.toNat, c.toNat_lt⟩
  rw [UInt8.ofNat_toNat] at h
  exact h
theorem ret_esc {x y : Int} {a b : Bool} (h : x = y) (h2 : a = b) : Ending.returned (.tuple #[.int .i32 x, .bool a]) = .returned (.tuple #[.int .i32 y, .bool b]) := by rw [h, h2]
set_option maxRecDepth 100000 in
set_option maxHeartbeats 1000000 in
theorem escaped_any (c : UInt8) (w : World) : Calls Tryd.prog 65 #[.int .u8 c.toNat] w fun e w' => e = .returned (.tuple #[.int .i32 ((escB c).getD c.toNat), .bool (escB c).isSome]) ∧ w' = w := by
  have HSP : Hid (∀ W, Calls Tryd.prog 22 #[.int .u8 c.toNat] W fun e w' => e = .returned (.bool (specB c)) ∧ w' = W) := fun W => special_any c W
  have hsp := specB_iff c
  rw [escB_iff]
  have hc : c.toNat < 256 := c.toNat_lt
  generalize c.toNat = n at *
  by_cases hs : specN n
  · rw [decide_eq_true hs] at hsp
    rw [hsp] at HSP
    rw [if_pos hs]
    unfold specN at hs
    clear hsp
    go_enter Tryd.func65, Tryd.ntmps65
    go_wp2_with (go_at_call 22; refine (HSP.out _).mono ?_; clear HSP; rintro e w1 ⟨rfl, hw⟩; have hw := hw.symm; subst hw)
    all_goals
      go_ret2
      simp only [beq_eq_false_iff_ne, ne_eq] at *
      refine ⟨ret_esc ?_ ?_, by first | rfl | trivial⟩ <;> (repeat' split) <;> first | rfl | omega | (simp; omega)
  · rw [decide_eq_false hs] at hsp
    rw [hsp] at HSP
    rw [if_neg hs]
    unfold specN at hs
    clear hsp
    go_enter Tryd.func65, Tryd.ntmps65
    go_wp2_with (go_at_call 22; refine (HSP.out _).mono ?_; clear HSP; rintro e w1 ⟨rfl, hw⟩; have hw := hw.symm; subst hw)
    all_goals
      go_ret2
      simp only [beq_iff_eq, beq_eq_false_iff_ne, ne_eq] at *
      refine ⟨ret_esc ?_ ?_, by first | rfl | trivial⟩ <;> (repeat' split) <;> first | rfl | omega | (simp; omega)
end Go.Proofs.YtmbkcmfcdjccoaaDoor
