/- Texts that belong together. -/
import Derived.Test.YtmbkcmfcdjccoaaDoorMP13
/- The parts of an expression, in memory. -/
namespace Go.Proofs.YtmbkcmfcdjccoaaDoor
open Go.RowKit Go.Maps

/-- A node's block. -/
def NodeB (w : World) (p : Nat) (k : Int) (cv pv : Value) (g lo hi : Int) (lz : Bool) (sz : Int) : Prop := w.heap[p]? = some (.cells #[.int .i64 k, cv, pv, .int .i64 g, .int .i64 lo, .int .i64 hi, .bool lz, .int .i64 sz] 65)
def ptrV (p : Nat) : Value := .pointer (some ⟨p, 0, none⟩)
/-- A row that reads as these, within a footprint. -/
def RowF (w : World) (F : Nat → Prop) (e : TypeId) (k : Nat) (v : Value) (n : Nat) (xs : List Value) : Prop := w.ownsRow 0 e k v n xs ∧ ∀ j, v.ownBlock = some j → F j
/-- The row of a node's parts. -/
def PtsAt (w : World) (F : Nat → Prop) (v : Value) (ps : List Nat) : Prop := RowF w F 59 1 v ps.length (ps.map ptrV)
mutual
/-- A part in memory: its node, what hangs on it, all within a footprint. -/
def NdAt (w : World) (F : Nat → Prop) : Nd → Nat → Prop
  | .take l neg, p => F p ∧ ∃ (v : Value) (A : List Sp), NodeB w p 0 v (.slice none 0 0) 0 0 0 false 1 ∧ RowF w F 104 2 v A.length (spC A) ∧ ClsOk A l neg
  | .start, p => F p ∧ NodeB w p 1 (.slice none 0 0) (.slice none 0 0) 0 0 0 false 1
  | .stop, p => F p ∧ NodeB w p 2 (.slice none 0 0) (.slice none 0 0) 0 0 0 false 1
  | .row l, p => F p ∧ ∃ (v : Value) (ps : List Nat), NodeB w p 3 (.slice none 0 0) v 0 0 0 false (sizeN (.row l)) ∧ PtsAt w F v ps ∧ NdsAt w F l ps
  | .either a b, p => F p ∧ ∃ (v : Value) (x y : Nat), NodeB w p 4 (.slice none 0 0) v 0 0 0 false (sizeN (.either a b)) ∧ PtsAt w F v [x, y] ∧ NdAt w F a x ∧ NdAt w F b y
  | .group n a, p => F p ∧ ∃ (v : Value) (x : Nat), NodeB w p 5 (.slice none 0 0) v n 0 0 false (sizeN (.group n a)) ∧ PtsAt w F v [x] ∧ NdAt w F a x
  | .plus a lz, p => F p ∧ ∃ (v : Value) (x : Nat), NodeB w p 6 (.slice none 0 0) v 0 0 (-1) lz (sizeN (.plus a lz)) ∧ PtsAt w F v [x] ∧ NdAt w F a x
  | .times a lo hi lz, p => F p ∧ ∃ (v : Value) (x : Nat), NodeB w p 7 (.slice none 0 0) v 0 lo hi lz (sizeN (.times a lo hi lz)) ∧ PtsAt w F v [x] ∧ NdAt w F a x
def NdsAt (w : World) (F : Nat → Prop) : List Nd → List Nat → Prop
  | [], ps => ps = []
  | a :: t, ps => ∃ x qs, ps = x :: qs ∧ NdAt w F a x ∧ NdsAt w F t qs
end
section
variable {w W : World} {F G : Nat → Prop}
theorem RowF.to {e : TypeId} {k n : Nat} {v : Value} {xs : List Value} (hFG : ∀ j, F j → G j) (hb : ∀ j, F j → W.heap[j]? = w.heap[j]?) (h : RowF w F e k v n xs) : RowF W G e k v n xs := by
  refine ⟨⟨h.1.1, ?_⟩, fun j hj => hFG j (h.2 j hj)⟩
  rcases h.1.2 with h1 | ⟨g, cap, cur, e1, h2, h3, h4⟩
  · exact Or.inl h1
  · exact Or.inr ⟨g, cap, cur, e1, h2, (hb g (h.2 g (by rw [e1]; rfl))).trans h3, h4⟩
theorem NodeB.to {p : Nat} {k : Int} {cv pv : Value} {g lo hi : Int} {lz : Bool} {sz : Int} (hb : W.heap[p]? = w.heap[p]?) (h : NodeB w p k cv pv g lo hi lz sz) : NodeB W p k cv pv g lo hi lz sz := hb.trans h
mutual
theorem NdAt.to (hFG : ∀ j, F j → G j) (hb : ∀ j, F j → W.heap[j]? = w.heap[j]?) : ∀ (n : Nd) (p : Nat), NdAt w F n p → NdAt W G n p
  | .take l neg, p, h => by
    unfold NdAt at h ⊢
    obtain ⟨hp, v, A, h1, h2, h3⟩ := h
    exact ⟨hFG p hp, v, A, h1.to (hb p hp), h2.to hFG hb, h3⟩
  | .start, p, h => by
    unfold NdAt at h ⊢
    exact ⟨hFG p h.1, h.2.to (hb p h.1)⟩
  | .stop, p, h => by
    unfold NdAt at h ⊢
    exact ⟨hFG p h.1, h.2.to (hb p h.1)⟩
  | .row l, p, h => by
    unfold NdAt at h ⊢
    obtain ⟨hp, v, ps, h1, h2, h3⟩ := h
    exact ⟨hFG p hp, v, ps, h1.to (hb p hp), RowF.to hFG hb h2, NdsAt.to hFG hb l ps h3⟩
  | .either a b, p, h => by
    unfold NdAt at h ⊢
    obtain ⟨hp, v, x, y, h1, h2, h3, h4⟩ := h
    exact ⟨hFG p hp, v, x, y, h1.to (hb p hp), RowF.to hFG hb h2, NdAt.to hFG hb a x h3, NdAt.to hFG hb b y h4⟩
  | .group n a, p, h => by
    unfold NdAt at h ⊢
    obtain ⟨hp, v, x, h1, h2, h3⟩ := h
    exact ⟨hFG p hp, v, x, h1.to (hb p hp), RowF.to hFG hb h2, NdAt.to hFG hb a x h3⟩
  | .plus a lz, p, h => by
    unfold NdAt at h ⊢
    obtain ⟨hp, v, x, h1, h2, h3⟩ := h
    exact ⟨hFG p hp, v, x, h1.to (hb p hp), RowF.to hFG hb h2, NdAt.to hFG hb a x h3⟩
  | .times a lo hi lz, p, h => by
    unfold NdAt at h ⊢
    obtain ⟨hp, v, x, h1, h2, h3⟩ := h
    exact ⟨hFG p hp, v, x, h1.to (hb p hp), RowF.to hFG hb h2, NdAt.to hFG hb a x h3⟩
theorem NdsAt.to (hFG : ∀ j, F j → G j) (hb : ∀ j, F j → W.heap[j]? = w.heap[j]?) : ∀ (l : List Nd) (ps : List Nat), NdsAt w F l ps → NdsAt W G l ps
  | [], ps, h => by
    unfold NdsAt at h ⊢
    exact h
  | a :: t, ps, h => by
    unfold NdsAt at h ⊢
    obtain ⟨x, qs, e, h1, h2⟩ := h
    exact ⟨x, qs, e, NdAt.to hFG hb a x h1, NdsAt.to hFG hb t qs h2⟩
end
theorem NdsAt.push : ∀ (l : List Nd) (ps : List Nat) (a : Nd) (x : Nat), NdsAt w F l ps → NdAt w F a x → NdsAt w F (l ++ [a]) (ps ++ [x])
  | [], ps, a, x, h, h1 => by
    unfold NdsAt at h
    subst h
    show NdsAt w F [a] [x]
    unfold NdsAt
    exact ⟨x, [], rfl, h1, by unfold NdsAt; rfl⟩
  | b :: t, ps, a, x, h, h1 => by
    unfold NdsAt at h
    obtain ⟨y, qs, rfl, h2, h3⟩ := h
    show NdsAt w F (b :: (t ++ [a])) (y :: (qs ++ [x]))
    unfold NdsAt
    exact ⟨y, qs ++ [x], rfl, h2, NdsAt.push t qs a x h3 h1⟩
end
/-- Every node tells its size. -/
theorem NdAt.size {w : World} {F : Nat → Prop} {n : Nd} {p : Nat} (h : NdAt w F n p) : w.cell? ⟨p, 7, none⟩ = some (.int .i64 (sizeN n)) := by
  cases n with
  | take l neg =>
    unfold NdAt at h
    obtain ⟨hp, v, A, h1, -⟩ := h
    rw [cell_of_heap h1]; rfl
  | start => unfold NdAt at h; rw [cell_of_heap h.2]; rfl
  | stop => unfold NdAt at h; rw [cell_of_heap h.2]; rfl
  | row l =>
    unfold NdAt at h
    obtain ⟨hp, v, ps, h1, -⟩ := h
    rw [cell_of_heap h1]; rfl
  | either a b =>
    unfold NdAt at h
    obtain ⟨hp, v, x, y, h1, -⟩ := h
    rw [cell_of_heap h1]; rfl
  | group g a =>
    unfold NdAt at h
    obtain ⟨hp, v, x, h1, -⟩ := h
    rw [cell_of_heap h1]; rfl
  | plus a lz =>
    unfold NdAt at h
    obtain ⟨hp, v, x, h1, -⟩ := h
    rw [cell_of_heap h1]; rfl
  | times a lo hi lz =>
    unfold NdAt at h
    obtain ⟨hp, v, x, h1, -⟩ := h
    rw [cell_of_heap h1]; rfl
theorem NdAt.foot {w : World} {F : Nat → Prop} {n : Nd} {p : Nat} (h : NdAt w F n p) : F p := by
  cases n <;> (unfold NdAt at h; exact h.1)
theorem sizesN_push : ∀ (l : List Nd) (a : Nd) (n : Int), sizesN (l ++ [a]) n = capN (sizesN l n + sizeN a)
  | [], a, n => by
    show sizesN [a] n = _
    unfold sizesN sizesN
    rfl
  | b :: t, a, n => by
    show sizesN (b :: (t ++ [a])) n = _
    unfold sizesN
    exact sizesN_push t a _
theorem sizesN_top : ∀ (l : List Nd) (n : Int), n ≤ 2001 → sizesN l n ≤ 2001
  | [], n, h => by unfold sizesN; exact h
  | b :: t, n, h => by
    unfold sizesN
    exact sizesN_top t _ (by unfold capN; omega)
theorem sizeN_top (n : Nd) : sizeN n ≤ 2001 := by
  cases n with
  | take l neg => unfold sizeN; omega
  | start => unfold sizeN; omega
  | stop => unfold sizeN; omega
  | row l => unfold sizeN; exact sizesN_top l 0 (by omega)
  | either a b => unfold sizeN capN; omega
  | group g a => unfold sizeN capN; omega
  | plus a lz => unfold sizeN capN; omega
  | times a lo hi lz => unfold sizeN capN; split <;> omega
/-- What lies between two sizes of the heap. -/
def Fresh (lo hi : Nat) (k : Nat) : Prop := lo ≤ k ∧ k < hi

set_option maxRecDepth 100000 in
theorem capped_any (x : Int) (w : World) (_h0 : -1000000000 ≤ x) (_h1 : x ≤ 1000000000) : Calls Tryd.prog 34 #[.int .i64 x] w fun e w' => e = .returned (.int .i64 (capN x)) ∧ w' = w := by
  go_enter Tryd.func34, Tryd.ntmps34
  go_wp2
  go_ret
  exact ⟨rfl, rfl⟩
set_option maxRecDepth 100000 in
theorem taking_any (v : Value) (a : Option Addr) (n c : Nat) (hv : v = .slice a n c) (w : World) : Calls Tryd.prog 55 #[v] w fun e w' => e = .returned (.pointer (some ⟨w.heap.size, 0, none⟩)) ∧ w' = w.alloc (.cells #[.int .i64 0, v, .slice none 0 0, .int .i64 0, .int .i64 0, .int .i64 0, .bool false, .int .i64 1] 65) := by
  subst hv
  go_enter Tryd.func55, Tryd.ntmps55
  go_wp2
  go_ret
  exact ⟨rfl, rfl⟩
end Go.Proofs.YtmbkcmfcdjccoaaDoor

/- The reader of an expression: repeats. -/
namespace Go.Proofs.YtmbkcmfcdjccoaaDoor
open Go.RowKit Go.Maps

/-- What a part comes to. -/
def NdP (w : World) (U : Nat) (s : ByteArray) (g S0 : Nat) (R : Rd Nd) (e : Ending) (w' : World) : Prop := match R with
  | .no q => (∃ x, e = .returned (.tuple #[.pointer x, .bool false])) ∧ RdS w U s g w' q
  | .yes y q => ∃ b, e = .returned (.tuple #[.pointer (some ⟨b, 0, none⟩), .bool true]) ∧ RdS w U s g w' q ∧ NdAt w' (Fresh S0 w'.heap.size) y b ∧ 0 ≤ sizeN y
/-- A repeat under way: the reader, and the node that is made. -/
structure RpS (w : World) (U : Nat) (s : ByteArray) (g p : Nat) (W : World) (j : Nat) (k lo hi : Int) (lz : Bool) (sz : Int) : Prop where
  rs : RdS w U s g W j
  node : NodeB W (w.heap.size + 1) k (.slice none 0 0) (.slice (some ⟨w.heap.size, 0, none⟩) 1 1) 0 lo hi lz sz
  arr : W.heap[w.heap.size]? = some (.cells #[ptrV p] 59)
section
variable {w W W' : World} {U : Nat} {s : ByteArray} {g p j : Nat} {k lo hi sz : Int} {lz : Bool}
theorem RpS.start (h : RdAt w U s j g) : RpS w U s g p ((w.alloc (.cells #[ptrV p] 59)).alloc (.cells #[.int .i64 7, .slice none 0 0, .slice (some ⟨w.heap.size, 0, none⟩) 1 1, .int .i64 0, .int .i64 0, .int .i64 (-1), .bool false, .int .i64 0] 65)) j 7 0 (-1) false 0 := by
  have hs : (w.alloc (.cells #[ptrV p] 59)).heap.size = w.heap.size + 1 := by simp
  refine ⟨(RdS.start h).belowB h.lt (((Below.refl _ _).alloc (Nat.le_refl _) _).alloc (by omega) _), ?_, ?_⟩
  · unfold NodeB
    rw [← hs]
    exact heap_alloc_new _ _
  · rw [Below.heap_alloc _ _ _ (by omega)]
    exact heap_alloc_new _ _
theorem RpS.drewN (h : RpS w U s g p W j k lo hi lz sz) (q : Nat) : RpS w U s g p (W.drewN q) j k lo hi lz sz := ⟨h.rs.drewN q, h.node, h.arr⟩
theorem RpS.lt (h : RpS w U s g p W j k lo hi lz sz) : w.heap.size + 1 < W.heap.size := (Array.getElem?_eq_some_iff.1 h.node).1
theorem RpS.fr (h : RpS w U s g p W j k lo hi lz sz) (i : Nat) : W.frozen? ⟨w.heap.size + 1, i, none⟩ = false := frozen_of_heap h.node
theorem RpS.n0 (h : RpS w U s g p W j k lo hi lz sz) : W.cell? ⟨w.heap.size + 1, 0, none⟩ = some (.int .i64 k) := by rw [cell_of_heap h.node]; rfl
theorem RpS.n4 (h : RpS w U s g p W j k lo hi lz sz) : W.cell? ⟨w.heap.size + 1, 4, none⟩ = some (.int .i64 lo) := by rw [cell_of_heap h.node]; rfl
theorem RpS.n5 (h : RpS w U s g p W j k lo hi lz sz) : W.cell? ⟨w.heap.size + 1, 5, none⟩ = some (.int .i64 hi) := by rw [cell_of_heap h.node]; rfl
theorem RpS.n6 (h : RpS w U s g p W j k lo hi lz sz) : W.cell? ⟨w.heap.size + 1, 6, none⟩ = some (.bool lz) := by rw [cell_of_heap h.node]; rfl
theorem RpS.n7 (h : RpS w U s g p W j k lo hi lz sz) : W.cell? ⟨w.heap.size + 1, 7, none⟩ = some (.int .i64 sz) := by rw [cell_of_heap h.node]; rfl
theorem RpS.on (h : RpS w U s g p W j k lo hi lz sz) (hU : U < w.heap.size) {j' : Nat} (hr : RdAt W' U s j' g) (hk : Kept (fun k => k = U) W W') : RpS w U s g p W' j' k lo hi lz sz := by
  have hl := h.lt
  exact ⟨h.rs.to hr hk, (hk.block _ hl (by omega)).trans h.node, (hk.block _ (by omega) (by omega)).trans h.arr⟩
theorem RpS.skip (c : UInt8) {b : Bool} {J : Nat} (hb : seesB s j c = b) (hJ : overB s j c = J) (hU : U < w.heap.size) (hs : s.size ≤ 1000000) : Hid (∀ W k lo hi lz sz, RpS w U s g p W j k lo hi lz sz → Calls Tryd.prog 33 #[.pointer (some ⟨U, 0, none⟩), .int .u8 c.toNat] W fun e w' => e = .returned (.bool b) ∧ RpS w U s g p w' J k lo hi lz sz) := fun W k lo hi lz sz hW => by
  have h9 := skip_any U s j g c W hW.rs.rd hs
  rw [hb, hJ] at h9
  exact h9.mono (by rintro e w' ⟨he, hr, hk⟩; exact ⟨he, hW.on hU hr hk⟩)
theorem RpS.put (h : RpS w U s g p W j k lo hi lz sz) (hU : U < w.heap.size) {c : Nat} {v : Value} {k' lo' hi' sz' : Int} {lz' : Bool} (hc : (#[.int .i64 k, .slice none 0 0, .slice (some ⟨w.heap.size, 0, none⟩) 1 1, .int .i64 0, .int .i64 lo, .int .i64 hi, .bool lz, .int .i64 sz] : Array Value).set! c v = #[.int .i64 k', .slice none 0 0, .slice (some ⟨w.heap.size, 0, none⟩) 1 1, .int .i64 0, .int .i64 lo', .int .i64 hi', .bool lz', .int .i64 sz']) : RpS w U s g p (W.setCell ⟨w.heap.size + 1, c, none⟩ v) j k' lo' hi' lz' sz' := by
  refine ⟨h.rs.belowB hU ((Below.refl _ _).setCell (p := ⟨w.heap.size + 1, c, none⟩) (by show w.heap.size ≤ w.heap.size + 1; omega) _), ?_, ?_⟩
  · unfold NodeB
    rw [heap_setCell_same h.node, hc]
  · rw [Below.heap_setCell _ _ _ _ (by show w.heap.size ≠ w.heap.size + 1; omega)]
    exact h.arr
theorem RpS.nd (h : RpS w U s g p W j k lo hi lz sz) {S0 : Nat} {x : Nd} (hx : NdAt w (Fresh S0 w.heap.size) x p) (hU : U < S0) (hS : S0 ≤ w.heap.size) : NdAt W (Fresh S0 W.heap.size) x p ∧ PtsAt W (Fresh S0 W.heap.size) (.slice (some ⟨w.heap.size, 0, none⟩) 1 1) [p] ∧ Fresh S0 W.heap.size (w.heap.size + 1) := by
  have hl := h.lt
  refine ⟨NdAt.to (fun j hj => ⟨hj.1, by have := hj.2; omega⟩) (fun j hj => h.rs.kept.block j hj.2 (by have := hj.1; omega)) x p hx, ⟨⟨rfl, Or.inr ⟨w.heap.size, 1, #[ptrV p], rfl, Nat.zero_le _, h.arr, Nat.le_refl _, by decide, rfl, rfl⟩⟩, fun j hj => ?_⟩, ⟨by omega, hl⟩⟩
  have hj2 : some w.heap.size = some j := hj
  injection hj2 with hj2
  exact ⟨by omega, by omega⟩
theorem RpS.times {lo : Nat} (h : RpS w U s g p W j 7 lo hi lz sz) {S0 : Nat} {x : Nd} (hx : NdAt w (Fresh S0 w.heap.size) x p) (hU : U < S0) (hS : S0 ≤ w.heap.size) (hz : sz = sizeN (.times x lo hi lz)) : NdAt W (Fresh S0 W.heap.size) (.times x lo hi lz) (w.heap.size + 1) := by
  obtain ⟨h1, h2, h3⟩ := h.nd hx hU hS
  unfold NdAt
  exact ⟨h3, _, p, by rw [← hz]; exact h.node, h2, h1⟩
theorem RpS.plus (h : RpS w U s g p W j 6 0 (-1) lz sz) {S0 : Nat} {x : Nd} (hx : NdAt w (Fresh S0 w.heap.size) x p) (hU : U < S0) (hS : S0 ≤ w.heap.size) (hz : sz = sizeN (.plus x lz)) : NdAt W (Fresh S0 W.heap.size) (.plus x lz) (w.heap.size + 1) := by
  obtain ⟨h1, h2, h3⟩ := h.nd hx hU hS
  unfold NdAt
  exact ⟨h3, _, p, by rw [← hz]; exact h.node, h2, h1⟩
end
theorem capped_is : Hid (∀ W x y, x = y → -1000000000 ≤ y → y ≤ 1000000000 → Calls Tryd.prog 34 #[.int .i64 x] W fun e w' => e = .returned (.int .i64 (capN y)) ∧ w' = W) := fun W x y hxy h0 h1 => hxy ▸ capped_any x W (by omega) (by omega)

theorem over_yes {s : ByteArray} {i : Nat} {c : UInt8} (h : seesB s i c = true) : overB s i c = i + 1 := by unfold overB; rw [if_pos h]
theorem over_no {s : ByteArray} {i : Nat} {c : UInt8} (h : seesB s i c = false) : overB s i c = i := by unfold overB; rw [if_neg (by simp [h])]
theorem sizeN_times (x : Nd) (lo : Nat) (hi : Int) (lz : Bool) : sizeN (.times x lo hi lz) = if hi = -1 then capN (lo * sizeN x + sizeN x + 2) else capN (lo * sizeN x + (hi - lo) * (sizeN x + 1)) := by rw [sizeN]
theorem sizeN_plus (x : Nd) (lz : Bool) : sizeN (.plus x lz) = capN (sizeN x + 1) := by rw [sizeN]
theorem repR_star {s : ByteArray} {i : Nat} (x : Nd) (h : seesB s i 42 = true) : repR s x i = .yes (.times x 0 (-1) (seesB s (i + 1) 63)) (overB s (i + 1) 63) := by unfold repR overB; rw [if_pos h]
theorem repR_plus {s : ByteArray} {i : Nat} (x : Nd) (h0 : seesB s i 42 = false) (h : seesB s i 43 = true) : repR s x i = .yes (.plus x (seesB s (i + 1) 63)) (overB s (i + 1) 63) := by unfold repR overB; rw [if_neg (by simp [h0]), if_pos h]
theorem repR_quest {s : ByteArray} {i : Nat} (x : Nd) (h0 : seesB s i 42 = false) (h1 : seesB s i 43 = false) (h : seesB s i 63 = true) : repR s x i = .yes (.times x 0 1 (seesB s (i + 1) 63)) (overB s (i + 1) 63) := by unfold repR overB; rw [if_neg (by simp [h0]), if_neg (by simp [h1]), if_pos h]
theorem repR_brace {s : ByteArray} {i : Nat} (x : Nd) (h0 : seesB s i 42 = false) (h1 : seesB s i 43 = false) (h2 : seesB s i 63 = false) (h : seesB s i 123 = true) : repR s x i = match countR s (i + 1) with | .no p => .no p | .yes (lo, hi) p => .yes (.times x lo hi (seesB s p 63)) (overB s p 63) := by unfold repR overB; rw [if_neg (by simp [h0]), if_neg (by simp [h1]), if_neg (by simp [h2]), if_pos h]; cases countR s (i + 1) <;> rfl
theorem repR_none {s : ByteArray} {i : Nat} (x : Nd) (h0 : seesB s i 42 = false) (h1 : seesB s i 43 = false) (h2 : seesB s i 63 = false) (h : seesB s i 123 = false) : repR s x i = .yes x i := by unfold repR; rw [if_neg (by simp [h0]), if_neg (by simp [h1]), if_neg (by simp [h2]), if_neg (by simp [h])]

set_option maxRecDepth 100000 in
set_option maxHeartbeats 4000000 in
theorem repeated_star (U p S0 : Nat) (s : ByteArray) (i g : Nat) (x : Nd) (w : World) (h : RdAt w U s i g) (hx : NdAt w (Fresh S0 w.heap.size) x p) (hU0 : U < S0) (hS : S0 ≤ w.heap.size) (h0 : 0 ≤ sizeN x) (hs : s.size ≤ 1000000) (h42 : seesB s i 42 = true) :
    Calls Tryd.prog 52 #[.pointer (some ⟨U, 0, none⟩), .pointer (some ⟨p, 0, none⟩)] w fun e w' => NdP w U s g S0 (repR s x i) e w' := by
  have hU := h.lt
  rw [repR_star x h42]
  have HP := RpS.start (p := p) h
  have HP : Hid _ := HP
  have HU : Hid (U < w.heap.size) := hU
  have HX : Hid (NdAt w (Fresh S0 w.heap.size) x p) := hx
  have HK := RpS.skip (w := w) (g := g) (p := p) 42 h42 (over_yes h42) hU hs
  have HL := RpS.skip (w := w) (g := g) (p := p) (s := s) (j := i + 1) (b := seesB s (i + 1) 63) 63 rfl rfl hU hs
  have HC := capped_is
  have hsz := sizeN_top x
  have HZ : Hid (∀ W, Kept (fun k => k = U) w W → W.cell? ⟨p, 7, none⟩ = some (.int .i64 (sizeN x))) := fun W hW => (World.cell?_of_block (hW.block p hx.foot.2 (fun (e : p = U) => by have := hx.foot.1; omega))).trans hx.size
  have HT : Hid (∀ lz, capN (sizeN x + 2) = sizeN (.times x 0 (-1) lz)) := fun lz => by rw [sizeN_times, if_pos rfl]; simp
  generalize seesB s (i + 1) 63 = L at *
  generalize overB s (i + 1) 63 = J at *
  clear h hx h42
  go_enter Tryd.func52, Tryd.ntmps52
  go_wp2_with (first
    | (go_at_call 33; refine (HK.out _ _ _ _ _ _ HP.out).mono ?_; clear HK HP; rintro e w1 ⟨rfl, hl⟩; have HP : Hid (RpS w U s g p w1 (i + 1) 7 0 (-1) false 0) := hl; clear hl)
    | (go_at_call 33; refine (HL.out _ _ _ _ _ _ HP.out).mono ?_; clear HL HP; rintro e w2 ⟨rfl, hl⟩; have HP : Hid (RpS w U s g p w2 J 7 0 (-1) false 0) := hl; clear hl; have f6 := HP.out.fr 6; have f7 := HP.out.fr 7; have n6 := HP.out.n6; have n7 := HP.out.n7; have n0 := HP.out.n0; have n4 := HP.out.n4; have n5 := HP.out.n5; have z7 := HZ.out _ HP.out.rs.kept))
  have hzb : sizeN x ≤ 2001 := hsz
  have HCP : Hid (0 ≤ capN (sizeN x + 2)) := by show 0 ≤ min _ _; omega
  generalize sizeN x = Z at *
  go_region_with (go_at_call 34; refine (HC.out _ _ (Z + 2) (by simp only [IntKind.wrap_i64]; omega) (by omega) (by omega)).mono ?_; rintro e w3 ⟨rfl, rfl⟩)
  all_goals
    have HF : Hid (RpS w U s g p ((w2.setCell ⟨w.heap.size + 1, 6, none⟩ (.bool L)).setCell ⟨w.heap.size + 1, 7, none⟩ (.int .i64 (capN (Z + 2)))).drew J 7 0 (-1) L (capN (Z + 2))) := ((HP.out.put HU.out rfl).put HU.out rfl).drewN 1
    go_wp2
    go_ret2
    exact ⟨_, rfl, HF.out.rs, RpS.times (lo := 0) HF.out HX.out hU0 hS (HT.out _), (HT.out L) ▸ HCP.out⟩

set_option maxRecDepth 100000 in
set_option maxHeartbeats 4000000 in
theorem repeated_plus (U p S0 : Nat) (s : ByteArray) (i g : Nat) (x : Nd) (w : World) (h : RdAt w U s i g) (hx : NdAt w (Fresh S0 w.heap.size) x p) (hU0 : U < S0) (hS : S0 ≤ w.heap.size) (h0 : 0 ≤ sizeN x) (hs : s.size ≤ 1000000) (h42 : seesB s i 42 = false) (h43 : seesB s i 43 = true) :
    Calls Tryd.prog 52 #[.pointer (some ⟨U, 0, none⟩), .pointer (some ⟨p, 0, none⟩)] w fun e w' => NdP w U s g S0 (repR s x i) e w' := by
  have hU := h.lt
  rw [repR_plus x h42 h43]
  have HP := RpS.start (p := p) h
  have HP : Hid _ := HP
  have HU : Hid (U < w.heap.size) := hU
  have HX : Hid (NdAt w (Fresh S0 w.heap.size) x p) := hx
  have HK0 := RpS.skip (w := w) (g := g) (p := p) 42 h42 (over_no h42) hU hs
  have HK := RpS.skip (w := w) (g := g) (p := p) 43 h43 (over_yes h43) hU hs
  have HL := RpS.skip (w := w) (g := g) (p := p) (s := s) (j := i + 1) (b := seesB s (i + 1) 63) 63 rfl rfl hU hs
  have HC := capped_is
  have hsz := sizeN_top x
  have HZ : Hid (∀ W, Kept (fun k => k = U) w W → W.cell? ⟨p, 7, none⟩ = some (.int .i64 (sizeN x))) := fun W hW => (World.cell?_of_block (hW.block p hx.foot.2 (fun (e : p = U) => by have := hx.foot.1; omega))).trans hx.size
  have HT : Hid (∀ lz, capN (sizeN x + 1) = sizeN (.plus x lz)) := fun lz => (sizeN_plus x lz).symm
  generalize seesB s (i + 1) 63 = L at *
  generalize overB s (i + 1) 63 = J at *
  clear h hx h42 h43
  have hzb : sizeN x ≤ 2001 := hsz
  have HCP : Hid (0 ≤ capN (sizeN x + 1)) := by show 0 ≤ min _ _; omega
  generalize sizeN x = Z at *
  go_enter Tryd.func52, Tryd.ntmps52
  go_wp2_with (first
    | (go_at_call 33; refine (HK0.out _ _ _ _ _ _ HP.out).mono ?_; clear HK0 HP; rintro e w0 ⟨rfl, hl⟩; have HP : Hid (RpS w U s g p w0 i 7 0 (-1) false 0) := hl; clear hl)
    | (go_at_call 33; refine (HK.out _ _ _ _ _ _ HP.out).mono ?_; clear HK HP; rintro e w1 ⟨rfl, hl⟩; have HP : Hid (RpS w U s g p w1 (i + 1) 7 0 (-1) false 0) := hl; clear hl; have f0 := HP.out.fr 0; have n0 := HP.out.n0)
    | (go_at_call 33; have hq := HP.out.put (c := 0) (v := .int .i64 6) (k' := 6) HU.out rfl; refine (HL.out _ _ _ _ _ _ hq).mono ?_; clear HL HP hq f0 n0; rintro e w2 ⟨rfl, hl⟩; have HP : Hid (RpS w U s g p w2 J 6 0 (-1) false 0) := hl; clear hl; have f6 := HP.out.fr 6; have f7 := HP.out.fr 7; have n6 := HP.out.n6; have n7 := HP.out.n7; have n0 := HP.out.n0; have z7 := HZ.out _ HP.out.rs.kept)
    | (go_at_call 34; refine (HC.out _ _ (Z + 1) (by first | rfl | (simp only [IntKind.wrap_i64]; omega)) (by omega) (by omega)).mono ?_; rintro e w3 ⟨rfl, rfl⟩))
  have HF : Hid (RpS w U s g p ((w2.setCell ⟨w.heap.size + 1, 6, none⟩ (.bool L)).setCell ⟨w.heap.size + 1, 7, none⟩ (.int .i64 (capN (Z + 1)))) J 6 0 (-1) L (capN (Z + 1))) := (HP.out.put HU.out rfl).put HU.out rfl
  go_ret2
  exact ⟨_, rfl, HF.out.rs, RpS.plus HF.out HX.out hU0 hS (HT.out _), (HT.out L) ▸ HCP.out⟩
end Go.Proofs.YtmbkcmfcdjccoaaDoor
