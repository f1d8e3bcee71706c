/- The parts of an expression, in memory. -/
import Derived.Test.YtjefpmahdnppjaaDoorMP13
namespace Go.Proofs.YtjefpmahdnppjaaDoor
open Go.RowKit Go.Maps

/-- A node's block. -/
def NodeB (w : World) (p : Nat) (k : Int) (cv pv : Value) (g lo hi : Int) (lz : Bool) (sz : Int) : Prop := w.heap[p]? = some (.cells #[.int .i64 k, cv, pv, .int .i64 g, .int .i64 lo, .int .i64 hi, .bool lz, .int .i64 sz] 43)
def ptrV (p : Nat) : Value := .pointer (some ⟨p, 0, none⟩)
/-- A row that reads as these, within a footprint. -/
def RowF (w : World) (F : Nat → Prop) (e : TypeId) (k : Nat) (v : Value) (n : Nat) (xs : List Value) : Prop := w.ownsRow 0 e k v n xs ∧ ∀ j, v.ownBlock = some j → F j
/-- The row of a node's parts. -/
def PtsAt (w : World) (F : Nat → Prop) (v : Value) (ps : List Nat) : Prop := RowF w F 37 1 v ps.length (ps.map ptrV)
mutual
/-- A part in memory: its node, what hangs on it, all within a footprint. -/
def NdAt (w : World) (F : Nat → Prop) : Nd → Nat → Prop
  | .take l neg, p => F p ∧ ∃ (v : Value) (A : List Sp), NodeB w p 0 v (.slice none 0 0) 0 0 0 false 1 ∧ RowF w F 83 2 v A.length (spC A) ∧ ClsOk A l neg
  | .start, p => F p ∧ NodeB w p 1 (.slice none 0 0) (.slice none 0 0) 0 0 0 false 1
  | .stop, p => F p ∧ NodeB w p 2 (.slice none 0 0) (.slice none 0 0) 0 0 0 false 1
  | .row l, p => F p ∧ ∃ (v : Value) (ps : List Nat), NodeB w p 3 (.slice none 0 0) v 0 0 0 false (sizeN (.row l)) ∧ PtsAt w F v ps ∧ NdsAt w F l ps
  | .either a b, p => F p ∧ ∃ (v : Value) (x y : Nat), NodeB w p 4 (.slice none 0 0) v 0 0 0 false (sizeN (.either a b)) ∧ PtsAt w F v [x, y] ∧ NdAt w F a x ∧ NdAt w F b y
  | .group n a, p => F p ∧ ∃ (v : Value) (x : Nat), NodeB w p 5 (.slice none 0 0) v n 0 0 false (sizeN (.group n a)) ∧ PtsAt w F v [x] ∧ NdAt w F a x
  | .plus a lz, p => F p ∧ ∃ (v : Value) (x : Nat), NodeB w p 6 (.slice none 0 0) v 0 0 (-1) lz (sizeN (.plus a lz)) ∧ PtsAt w F v [x] ∧ NdAt w F a x
  | .times a lo hi lz, p => F p ∧ ∃ (v : Value) (x : Nat), NodeB w p 7 (.slice none 0 0) v 0 lo hi lz (sizeN (.times a lo hi lz)) ∧ PtsAt w F v [x] ∧ NdAt w F a x
def NdsAt (w : World) (F : Nat → Prop) : List Nd → List Nat → Prop
  | [], ps => ps = []
  | a :: t, ps => ∃ x qs, ps = x :: qs ∧ NdAt w F a x ∧ NdsAt w F t qs
end
section
variable {w W : World} {F G : Nat → Prop}
theorem RowF.to {e : TypeId} {k n : Nat} {v : Value} {xs : List Value} (hFG : ∀ j, F j → G j) (hb : ∀ j, F j → W.heap[j]? = w.heap[j]?) (h : RowF w F e k v n xs) : RowF W G e k v n xs := by
  refine ⟨⟨h.1.1, ?_⟩, fun j hj => hFG j (h.2 j hj)⟩
  rcases h.1.2 with h1 | ⟨g, cap, cur, e1, h2, h3, h4⟩
  · exact Or.inl h1
  · exact Or.inr ⟨g, cap, cur, e1, h2, (hb g (h.2 g (by rw [e1]; rfl))).trans h3, h4⟩
theorem NodeB.to {p : Nat} {k : Int} {cv pv : Value} {g lo hi : Int} {lz : Bool} {sz : Int} (hb : W.heap[p]? = w.heap[p]?) (h : NodeB w p k cv pv g lo hi lz sz) : NodeB W p k cv pv g lo hi lz sz := hb.trans h
mutual
theorem NdAt.to (hFG : ∀ j, F j → G j) (hb : ∀ j, F j → W.heap[j]? = w.heap[j]?) : ∀ (n : Nd) (p : Nat), NdAt w F n p → NdAt W G n p
  | .take l neg, p, h => by
    unfold NdAt at h ⊢
    obtain ⟨hp, v, A, h1, h2, h3⟩ := h
    exact ⟨hFG p hp, v, A, h1.to (hb p hp), h2.to hFG hb, h3⟩
  | .start, p, h => by
    unfold NdAt at h ⊢
    exact ⟨hFG p h.1, h.2.to (hb p h.1)⟩
  | .stop, p, h => by
    unfold NdAt at h ⊢
    exact ⟨hFG p h.1, h.2.to (hb p h.1)⟩
  | .row l, p, h => by
    unfold NdAt at h ⊢
    obtain ⟨hp, v, ps, h1, h2, h3⟩ := h
    exact ⟨hFG p hp, v, ps, h1.to (hb p hp), RowF.to hFG hb h2, NdsAt.to hFG hb l ps h3⟩
  | .either a b, p, h => by
    unfold NdAt at h ⊢
    obtain ⟨hp, v, x, y, h1, h2, h3, h4⟩ := h
    exact ⟨hFG p hp, v, x, y, h1.to (hb p hp), RowF.to hFG hb h2, NdAt.to hFG hb a x h3, NdAt.to hFG hb b y h4⟩
  | .group n a, p, h => by
    unfold NdAt at h ⊢
    obtain ⟨hp, v, x, h1, h2, h3⟩ := h
    exact ⟨hFG p hp, v, x, h1.to (hb p hp), RowF.to hFG hb h2, NdAt.to hFG hb a x h3⟩
  | .plus a lz, p, h => by
    unfold NdAt at h ⊢
    obtain ⟨hp, v, x, h1, h2, h3⟩ := h
    exact ⟨hFG p hp, v, x, h1.to (hb p hp), RowF.to hFG hb h2, NdAt.to hFG hb a x h3⟩
  | .times a lo hi lz, p, h => by
    unfold NdAt at h ⊢
    obtain ⟨hp, v, x, h1, h2, h3⟩ := h
    exact ⟨hFG p hp, v, x, h1.to (hb p hp), RowF.to hFG hb h2, NdAt.to hFG hb a x h3⟩
theorem NdsAt.to (hFG : ∀ j, F j → G j) (hb : ∀ j, F j → W.heap[j]? = w.heap[j]?) : ∀ (l : List Nd) (ps : List Nat), NdsAt w F l ps → NdsAt W G l ps
  | [], ps, h => by
    unfold NdsAt at h ⊢
    exact h
  | a :: t, ps, h => by
    unfold NdsAt at h ⊢
    obtain ⟨x, qs, e, h1, h2⟩ := h
    exact ⟨x, qs, e, NdAt.to hFG hb a x h1, NdsAt.to hFG hb t qs h2⟩
end
theorem NdsAt.push : ∀ (l : List Nd) (ps : List Nat) (a : Nd) (x : Nat), NdsAt w F l ps → NdAt w F a x → NdsAt w F (l ++ [a]) (ps ++ [x])
  | [], ps, a, x, h, h1 => by
    unfold NdsAt at h
    subst h
    show NdsAt w F [a] [x]
    unfold NdsAt
    exact ⟨x, [], rfl, h1, by unfold NdsAt; rfl⟩
  | b :: t, ps, a, x, h, h1 => by
    unfold NdsAt at h
    obtain ⟨y, qs, rfl, h2, h3⟩ := h
    show NdsAt w F (b :: (t ++ [a])) (y :: (qs ++ [x]))
    unfold NdsAt
    exact ⟨y, qs ++ [x], rfl, h2, NdsAt.push t qs a x h3 h1⟩
end
/-- Every node tells its size. -/
theorem NdAt.size {w : World} {F : Nat → Prop} {n : Nd} {p : Nat} (h : NdAt w F n p) : w.cell? ⟨p, 7, none⟩ = some (.int .i64 (sizeN n)) := by
  cases n with
  | take l neg =>
    unfold NdAt at h
    obtain ⟨hp, v, A, h1, -⟩ := h
    rw [cell_of_heap h1]; rfl
  | start => unfold NdAt at h; rw [cell_of_heap h.2]; rfl
  | stop => unfold NdAt at h; rw [cell_of_heap h.2]; rfl
  | row l =>
    unfold NdAt at h
    obtain ⟨hp, v, ps, h1, -⟩ := h
    rw [cell_of_heap h1]; rfl
  | either a b =>
    unfold NdAt at h
    obtain ⟨hp, v, x, y, h1, -⟩ := h
    rw [cell_of_heap h1]; rfl
  | group g a =>
    unfold NdAt at h
    obtain ⟨hp, v, x, h1, -⟩ := h
    rw [cell_of_heap h1]; rfl
  | plus a lz =>
    unfold NdAt at h
    obtain ⟨hp, v, x, h1, -⟩ := h
    rw [cell_of_heap h1]; rfl
  | times a lo hi lz =>
    unfold NdAt at h
    obtain ⟨hp, v, x, h1, -⟩ := h
    rw [cell_of_heap h1]; rfl
theorem NdAt.foot {w : World} {F : Nat → Prop} {n : Nd} {p : Nat} (h : NdAt w F n p) : F p := by
  cases n <;> (unfold NdAt at h; exact h.1)
theorem sizesN_push : ∀ (l : List Nd) (a : Nd) (n : Int), sizesN (l ++ [a]) n = capN (sizesN l n + sizeN a)
  | [], a, n => by
    show sizesN [a] n = _
    unfold sizesN sizesN
    rfl
  | b :: t, a, n => by
    show sizesN (b :: (t ++ [a])) n = _
    unfold sizesN
    exact sizesN_push t a _
theorem sizesN_top : ∀ (l : List Nd) (n : Int), n ≤ 2001 → sizesN l n ≤ 2001
  | [], n, h => by unfold sizesN; exact h
  | b :: t, n, h => by
    unfold sizesN
    exact sizesN_top t _ (by unfold capN; omega)
theorem sizeN_top (n : Nd) : sizeN n ≤ 2001 := by
  cases n with
  | take l neg => unfold sizeN; omega
  | start => unfold sizeN; omega
  | stop => unfold sizeN; omega
  | row l => unfold sizeN; exact sizesN_top l 0 (by omega)
  | either a b => unfold sizeN capN; omega
  | group g a => unfold sizeN capN; omega
  | plus a lz => unfold sizeN capN; omega
  | times a lo hi lz => unfold sizeN capN; split <;> omega
/-- What lies between two sizes of the heap. -/
def Fresh (lo hi : Nat) (k : Nat) : Prop := lo ≤ k ∧ k < hi

set_option maxRecDepth 100000 in
theorem capped_any (x : Int) (w : World) (_h0 : -1000000000 ≤ x) (_h1 : x ≤ 1000000000) : Calls Tryd.prog 19 #[.int .i64 x] w fun e w' => e = .returned (.int .i64 (capN x)) ∧ w' = w := by
  go_enter Tryd.func19, Tryd.ntmps19
  go_wp2
  go_ret
  exact ⟨rfl, rfl⟩
set_option maxRecDepth 100000 in
theorem taking_any (v : Value) (a : Option Addr) (n c : Nat) (hv : v = .slice a n c) (w : World) : Calls Tryd.prog 40 #[v] w fun e w' => e = .returned (.pointer (some ⟨w.heap.size, 0, none⟩)) ∧ w' = w.alloc (.cells #[.int .i64 0, v, .slice none 0 0, .int .i64 0, .int .i64 0, .int .i64 0, .bool false, .int .i64 1] 43) := by
  subst hv
  go_enter Tryd.func40, Tryd.ntmps40
  go_wp2
  go_ret
  exact ⟨rfl, rfl⟩
end Go.Proofs.YtjefpmahdnppjaaDoor
