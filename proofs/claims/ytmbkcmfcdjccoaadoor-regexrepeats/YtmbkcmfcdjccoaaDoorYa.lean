/- Slices as rows of cells; what is kept. -/
import Derived.Test.YtmbkcmfcdjccoaaDoorProg
import Derived.WalkKit
import Derived.WalkSpells
import Derived.WalkLawsBesides
import Derived.Deep.AppendLies
import Derived.Deep.Light
import Derived.Below
import Derived.Deep.QuietTactic
import Derived.BigQuiet
import Derived.Sort.Walk0
import Derived.Laws.OwnMore
import Derived.Laws.MakeOwn
import Derived.Laws.AppendOwnNone
import Derived.Deep.RegionLaw
import Derived.Maps.AppendAt
import Derived.Maps.OwnIn
import Derived.RangeFuncNested
import Derived.RangeFuncBound
import Derived.RangeFuncCalls
import Derived.RangeFuncLeaves
import Derived.RangeFuncBox
import Derived.Shelf.Abstract
import Derived.Shelf.RegionOpen
import Derived.OwnWalkIn
import Derived.TacticsInMore
import Derived.LoopNIn
import Derived.LoopIn
namespace Go.Proofs.YtmbkcmfcdjccoaaDoor
open Go.RowKit Go.Maps Go.Sort

theorem ret_bool {a b : Bool} (h : a = b) : Ending.returned (.bool a) = .returned (.bool b) := by rw [h]
theorem ret_int {a b : Int} (h : a = b) : Ending.returned (.int .i64 a) = .returned (.int .i64 b) := by rw [h]
theorem drewN_drewN (w : World) (a b : Nat) : (w.drewN a).drewN b = w.drewN (a + b) := by
  induction b with
  | zero => rfl
  | succ b ih => show ((w.drewN a).drewN b).drew = _; rw [ih]; rfl
theorem below_drewN {B : Nat} {a w : World} (h : Below B a w) : ∀ q, Below B a (w.drewN q)
  | 0 => h
  | q + 1 => (below_drewN h q).drew

/-- Blocks outside O are as they were. -/
structure Kept (O : Nat → Prop) (w w' : World) : Prop where
  os : w'.os = w.os
  tape : w'.tape = w.tape
  output : w'.output = w.output
  size : w.heap.size ≤ w'.heap.size
  block : ∀ k, k < w.heap.size → ¬ O k → w'.heap[k]? = w.heap[k]?

theorem Kept.refl (O : Nat → Prop) (w : World) : Kept O w w := ⟨rfl, rfl, rfl, Nat.le_refl _, fun _ _ _ => rfl⟩
theorem Kept.trans {O O' : Nat → Prop} {a b c : World} (h : Kept O a b) (k : Kept O' b c) (hO : ∀ i, i < a.heap.size → O' i → O i) : Kept O a c :=
  ⟨k.os.trans h.os, k.tape.trans h.tape, k.output.trans h.output, Nat.le_trans h.size k.size, fun i hi hn => (k.block i (Nat.lt_of_lt_of_le hi h.size) (fun h' => hn (hO i hi h'))).trans (h.block i hi hn)⟩
theorem Kept.mono {O O' : Nat → Prop} {a b : World} (h : Kept O a b) (hO : ∀ i, i < a.heap.size → O i → O' i) : Kept O' a b :=
  ⟨h.os, h.tape, h.output, h.size, fun i hi hn => h.block i hi (fun h' => hn (hO i hi h'))⟩
theorem Kept.drewN {O : Nat → Prop} {a b : World} (h : Kept O a b) (n : Nat) : Kept O a (b.drewN n) := ⟨h.os, h.tape, h.output, h.size, h.block⟩
theorem Kept.alloc {O : Nat → Prop} {a b : World} (h : Kept O a b) (o : Obj) : Kept O a (b.alloc o) :=
  ⟨h.os, h.tape, h.output, Nat.le_trans h.size (by simp), fun i hi hn => (Below.heap_alloc b o i (Nat.lt_of_lt_of_le hi h.size)).trans (h.block i hi hn)⟩
theorem Kept.setCell {O : Nat → Prop} {a b : World} (h : Kept O a b) {p : Addr} (hp : p.block < a.heap.size → O p.block) (u : Value) : Kept O a (b.setCell p u) :=
  ⟨h.os, h.tape, h.output, Nat.le_trans h.size (by simp [World.setCell]), fun i hi hn => (Below.heap_setCell b p u i (fun e => hn (by subst e; exact hp hi))).trans (h.block i hi hn)⟩
theorem Kept.putObj {O : Nat → Prop} {a b : World} (h : Kept O a b) {j : Nat} (hp : j < a.heap.size → O j) (o : Obj) : Kept O a (b.putObj j o) :=
  ⟨h.os, h.tape, h.output, Nat.le_trans h.size (by simp [World.putObj]), fun i hi hn => (World.putObj_heap_other (fun e => hn (by subst e; exact hp hi))).trans (h.block i hi hn)⟩
theorem Kept.grown {O : Nat → Prop} {a b c : World} {row : Option Nat} (h : Kept O a b) (g : b.grownBy c row) (hr : ∀ k, k < a.heap.size → row = some k → O k) : Kept O a c :=
  ⟨g.os.trans h.os, g.tape.trans h.tape, g.output.trans h.output, Nat.le_trans h.size g.size, fun i hi hn => (g.block i (Nat.lt_of_lt_of_le hi h.size) (fun e => hn (hr i hi e.symm))).trans (h.block i hi hn)⟩
theorem Kept.below {O : Nat → Prop} {a b c : World} (h : Kept O a b) (g : Below b.heap.size b c) : Kept O a c :=
  ⟨g.os.trans h.os, g.tape.trans h.tape, g.output.trans h.output, Nat.le_trans h.size g.size, fun i hi hn => (g.block i (Nat.lt_of_lt_of_le hi h.size)).trans (h.block i hi hn)⟩
theorem Kept.toBelow {O : Nat → Prop} {a b : World} {B : Nat} (h : Kept O a b) (hB : B ≤ a.heap.size) (hO : ∀ i, O i → B ≤ i) : Below B a b :=
  ⟨h.os, h.tape, h.output, h.size, fun i hi => h.block i (by omega) (fun h' => by have := hO i h'; omega)⟩
theorem Kept.ownsRow {O : Nat → Prop} {w w' : World} (h : Kept O w w') {base : Nat} {e : TypeId} {size : Nat} {v : Value} {n : Nat} {xs : List Value} (ho : w.ownsRow base e size v n xs) (hb : ∀ k, v.ownBlock = some k → ¬ O k) : w'.ownsRow base e size v n xs := by
  refine ⟨ho.1, ?_⟩
  rcases ho.2 with h2 | ⟨g, cap, cur, rfl, hg, hh, r⟩
  · exact Or.inl h2
  · exact Or.inr ⟨g, cap, cur, rfl, hg, (h.block g (Array.getElem?_eq_some_iff.1 hh).1 (hb g rfl)).trans hh, r⟩
theorem Kept.heap {O : Nat → Prop} {w w' : World} (h : Kept O w w') {k : Nat} {o : Obj} (ho : w.heap[k]? = some o) (hk : ¬ O k) : w'.heap[k]? = some o :=
  (h.block k (Array.getElem?_eq_some_iff.1 ho).1 hk).trans ho

theorem row_mono {w : World} {base base' size n : Nat} {e : TypeId} {v : Value} {xs : List Value} (h : w.ownsRow base e size v n xs) (hb : base' ≤ base) : w.ownsRow base' e size v n xs := by
  refine ⟨h.1, ?_⟩
  rcases h.2 with h1 | ⟨g, cap, cur, e, h2, h3⟩
  · exact Or.inl h1
  · exact Or.inr ⟨g, cap, cur, e, Nat.le_trans hb h2, h3⟩
theorem row_below {w w' : World} {base size n : Nat} {e : TypeId} {v : Value} {xs : List Value} (h : w.ownsRow base e size v n xs) (hb : Below w.heap.size w w') : w'.ownsRow base e size v n xs := by
  refine ⟨h.1, ?_⟩
  rcases h.2 with h1 | ⟨g, cap, cur, e, h2, h3, h4⟩
  · exact Or.inl h1
  · exact Or.inr ⟨g, cap, cur, e, h2, (hb.block g (Array.getElem?_eq_some_iff.1 h3).1).trans h3, h4⟩
theorem slice_of_row {w : World} {base n size : Nat} {e : TypeId} {v : Value} {xs : List Value} (h : w.ownsRow base e size v n xs) : ∃ a c, v = .slice a n c := by
  rcases h.2 with ⟨rfl, rfl⟩ | ⟨g, cap, _, rfl, _⟩
  · exact ⟨none, 0, rfl⟩
  · exact ⟨_, cap, rfl⟩
theorem row_empty (w : World) (e : TypeId) (size : Nat) {base : Nat} (hb : base ≤ w.heap.size) : (w.alloc (.cells #[] e)).ownsRow base e size (.slice (some ⟨w.heap.size, 0, none⟩) 0 0) 0 [] :=
  ⟨by simp, Or.inr ⟨w.heap.size, 0, #[], rfl, hb, heap_alloc_new w _, Nat.le_refl _, Nat.zero_le _, by simp, by simp⟩⟩

/-- The block in which a slice lies. -/
def blkOf : Value → Option Nat
  | .slice (some a) _ _ => some a.block
  | _ => none
/-- A slice of n elements of k cells each that reads as these cells. -/
def RowAt (w : World) (v : Value) (k n : Nat) (cs : List Value) : Prop :=
  ∃ a c, v = .slice a n c ∧ (n ≤ c ∧ c ≤ maxLen) ∧ cs.length = n * k ∧ ∀ j u, cs[j]? = some u → ∃ b o, a = some ⟨b, o, none⟩ ∧ b < w.heap.size ∧ w.cell? ⟨b, o + j, none⟩ = some u
theorem RowAt.kept {O : Nat → Prop} {w w' : World} {v : Value} {k n : Nat} {cs : List Value} (h : RowAt w v k n cs) (hk : Kept O w w') (ho : ∀ b, blkOf v = some b → ¬ O b) : RowAt w' v k n cs := by
  obtain ⟨a, c, rfl, h1, h2, h3⟩ := h
  refine ⟨a, c, rfl, h1, h2, fun j u hu => ?_⟩
  obtain ⟨b, o, rfl, hb, hc⟩ := h3 j u hu
  exact ⟨b, o, rfl, Nat.lt_of_lt_of_le hb hk.size, (World.cell?_of_block (w := w) (hk.block b hb (ho b rfl))).trans hc⟩
theorem RowAt.below {w w' : World} {v : Value} {k n : Nat} {cs : List Value} (h : RowAt w v k n cs) (hb : Below w.heap.size w w') : RowAt w' v k n cs := by
  obtain ⟨a, c, rfl, h1, h2, h3⟩ := h
  refine ⟨a, c, rfl, h1, h2, fun j u hu => ?_⟩
  obtain ⟨b, o, rfl, hl, hc⟩ := h3 j u hu
  exact ⟨b, o, rfl, Nat.lt_of_lt_of_le hl hb.size, (hb.cell (p := ⟨b, o + j, none⟩) hl).trans hc⟩
theorem RowAt.of_row {w : World} {base k n : Nat} {e : TypeId} {v : Value} {cs : List Value} (h : w.ownsRow base e k v n cs) : RowAt w v k n cs := by
  rcases id h.2 with ⟨rfl, rfl⟩ | ⟨g, cap, cur, rfl, hg, hcur, hc1, hc2, _⟩
  · exact ⟨none, 0, rfl, ⟨Nat.le_refl _, Nat.zero_le _⟩, h.1, fun j u hu => by
      have h1 : cs.length = 0 := by rw [h.1]; simp
      rw [List.eq_nil_of_length_eq_zero h1] at hu
      simp at hu⟩
  · refine ⟨some ⟨g, 0, none⟩, cap, rfl, ⟨hc1, hc2⟩, h.1, fun j u hu => ⟨g, 0, rfl, (Array.getElem?_eq_some_iff.1 hcur).1, ?_⟩⟩
    have := h.cells (g := g) rfl _ _ hu
    rw [Addr.add_lit, Nat.zero_add] at this
    rw [Nat.zero_add]; exact this
theorem RowAt.of_block {w : World} {g k n : Nat} {cs : Array Value} {t : TypeId} {fr : Nat × Nat} (h : w.heap[g]? = some (.cells cs t fr)) (hl : cs.size = n * k) (hn : n ≤ maxLen) : RowAt w (.slice (some ⟨g, 0, none⟩) n n) k n cs.toList := by
  refine ⟨_, _, rfl, ⟨Nat.le_refl _, hn⟩, by simpa using hl, fun j u hu => ⟨g, 0, rfl, (Array.getElem?_eq_some_iff.1 h).1, ?_⟩⟩
  have := World.news_of_block h j u (by simpa using hu)
  rw [Addr.add_lit] at this
  exact this
theorem RowAt.one {w : World} {a : Option Addr} {n k c : Nat} {cs : List Value} (h : RowAt w (.slice a n c) k n cs) {j : Nat} {u : Value} (hj : cs[j]? = some u) : ∃ b o, a = some ⟨b, o, none⟩ ∧ ∀ w', Below w.heap.size w w' → w'.cell? ⟨b, o + j, none⟩ = some u := by
  obtain ⟨a', c', e, -, -, hc⟩ := h
  cases e
  obtain ⟨b, o, rfl, hb, h1⟩ := hc j u hj
  exact ⟨b, o, rfl, fun w' hb' => (hb'.cell (p := ⟨b, o + j, none⟩) hb).trans h1⟩
theorem RowAt.sub {w : World} {v : Value} {k n : Nat} {cs : List Value} (h : RowAt w v k n cs) : ∃ a c, v = .slice a n c ∧ n ≤ c ∧ c ≤ maxLen := by
  obtain ⟨a, c, h1, h2, -⟩ := h
  exact ⟨a, c, h1, h2.1, h2.2⟩

/-- A row behind a row. -/
theorem run_append_row {P : Program} (w : World) (T ty E : TypeId) (i : TypeInfo) (z : Value) (k bytes : Nat) (ht : P.underlying T = some (.slice E)) (hi : P.info? E = some i) (hz : i.zero = some z) (hsize : i.size = k) (hby : i.bytes = bytes) (hzs : z.cells.size = k) (hsz : 0 < k) (hbt : bytes ≤ 100)
    (base : Nat) (v : Value) (n : Nat) (xs : List Value) (hown : w.ownsRow base E k v n xs) (xv : Value) (m : Nat) (nw : List Value) (hb : RowAt w xv k m nw) (h1 : ∀ u ∈ nw, u.oneCell' = true) (hl : n + m ≤ 1000000) (hbase : base ≤ w.heap.size) :
    ∃ v' w', (Builtin.append_ #[T, T] ty #[v, xv]).run P w = .ok v' w' ∧ w'.ownsRow base E k v' (n + m) (xs ++ nw) ∧ w.grownBy w' v.ownBlock ∧ (v'.ownBlock = v.ownBlock ∨ v'.ownBlock = some w.heap.size) := by
  obtain ⟨a, c, rfl, hlc, hnl, hc⟩ := id hb
  have hsome : ∀ ad : Addr, a = some ad → (∀ j u, nw[j]? = some u → w.cell? (ad.add j) = some u) → ∃ v' w', (Builtin.append_ #[T, T] ty #[v, .slice a m c]).run P w = .ok v' w' ∧ w'.ownsRow base E k v' (n + m) (xs ++ nw) ∧ w.grownBy w' v.ownBlock ∧ (v'.ownBlock = v.ownBlock ∨ v'.ownBlock = some w.heap.size) := fun ad e hcell => by
    subst e
    obtain ⟨v', w', hr, h2, h3, _, h5⟩ := run_append_own_at (P := P) w base T ty E i z k bytes ht hi hz hsize hby hzs hsz v n xs hown ad m c nw hnl hcell h1 (by unfold maxLen; omega) (by
      have : (n + m) * bytes ≤ 1000000 * 100 := Nat.mul_le_mul hl hbt
      omega) hbase
    exact ⟨v', w', hr, h2, h3, h5⟩
  cases a with
  | none =>
    have hm : nw = [] := by
      cases nw with
      | nil => rfl
      | cons x t => obtain ⟨b, o, e, -⟩ := hc 0 x rfl; cases e
    subst hm
    have hm0 : m = 0 := by
      rcases Nat.eq_zero_or_pos m with h | h
      · exact h
      · have := Nat.mul_pos h hsz
        simp at hnl
        omega
    subst hm0
    exact ⟨v, w, run_append_owned_none (P := P) (w := w) base T ty E i k ht hi v n xs hown, by simpa using hown, ⟨rfl, rfl, rfl, Nat.le_refl _, fun _ _ _ => rfl⟩, Or.inl rfl⟩
  | some ad =>
    cases nw with
    | nil => exact hsome ad rfl (fun j u hu => by simp at hu)
    | cons x t =>
      obtain ⟨b, o, e, -⟩ := hc 0 x rfl
      cases e
      refine hsome _ rfl (fun j u hu => ?_)
      obtain ⟨b', o', e, -, h9⟩ := hc j u hu
      cases e
      rw [Addr.add_lit]
      exact h9

/-- What append of such a type does. -/
structure App (P : Program) (T E : TypeId) (k : Nat) : Prop where
  run : ∀ (w : World) (ty : TypeId) (base : Nat) (v : Value) (n : Nat) (xs : List Value), w.ownsRow base E k v n xs → ∀ (xv : Value) (m : Nat) (nw : List Value), RowAt w xv k m nw → (∀ u ∈ nw, u.oneCell' = true) → n + m ≤ 1000000 → base ≤ w.heap.size →
    ∃ v' w', (Builtin.append_ #[T, T] ty #[v, xv]).run P w = .ok v' w' ∧ w'.ownsRow base E k v' (n + m) (xs ++ nw) ∧ w.grownBy w' v.ownBlock ∧ (v'.ownBlock = v.ownBlock ∨ v'.ownBlock = some w.heap.size)
theorem App.of {P : Program} {T E : TypeId} {k : Nat} {z : Value} {bytes : Nat} (ht : P.underlying T = some (.slice E)) (hi : (P.info? E).map (fun i => (i.zero, i.size, i.bytes)) = some (some z, k, bytes)) (hzs : z.cells.size = k) (hsz : 0 < k) (hbt : bytes ≤ 100) : App P T E k := by
  obtain ⟨i0, hi0, hz0, hz1, hz2⟩ := info_parts hi
  exact ⟨fun w ty base v n xs hown xv m nw hb h1 hl hbase => run_append_row w T ty E i0 z k bytes ht hi0 hz0 hz1 hz2 hzs hsz hbt base v n xs hown xv m nw hb h1 hl hbase⟩

theorem wpList_append_row {P : Program} {T E : TypeId} {k : Nat} (HA : App P T E k) (w : World) {ops : Array Oper} {rest : List Oper} {o : Oper} {a : Act} {Q : Exit → Act → World → Prop} (hgd : o.guard = none) (s x : Operand)
    (ho : o.op = .call { callee := .builtin .append, args := #[s, x], argTypes := #[T, T] }) (base : Nat) (v : Value) (n : Nat) (xs : List Value) (hs : a.eval s = v) (hown : w.ownsRow base E k v n xs)
    (xv : Value) (m : Nat) (nw : List Value) (hx : a.eval x = xv) (hb : RowAt w xv k m nw) (h1 : ∀ u ∈ nw, u.oneCell' = true) (hl : n + m ≤ 1000000) (hbase : base ≤ w.heap.size)
    (h : ∀ c d w', w'.ownsRow base E k (.slice c (n + m) d) (n + m) (xs ++ nw) → w.grownBy w' v.ownBlock → ((Value.slice c (n + m) d).ownBlock = v.ownBlock ∨ (Value.slice c (n + m) d).ownBlock = some w.heap.size) → wpList P ops Q rest (a.put o.dst (.slice c (n + m) d)) w') :
    wpList P ops Q (o :: rest) a w := by
  refine wpList_plain hgd fun K hK => ?_
  obtain ⟨v', w', hr, h2, h3, h4⟩ := HA.run w o.type base v n xs hown xv m nw hb h1 hl hbase
  obtain ⟨c, d, rfl⟩ := slice_of_row h2
  unfold Oper.wp execOp
  simp only [ho, resolve, invoke, builtin, Sem.run_bind, Sem.run_pure, Result.andThen_ok, List.map_toArray, List.map_cons, List.map_nil, hs, hx, hr]
  exact hK _ _ (h c d w' h2 h3 h4)
theorem wpListIn_append_row {F : Fence} {nF : Nat} {P : Program} {T E : TypeId} {k : Nat} (HA : App P T E k) (w : World) {ops : Array Oper} {rest : List Oper} {o : Oper} {a : Act} {Q : Exit → Act → World → Prop} (hgd : o.guard = none) (s x : Operand)
    (ho : o.op = .call { callee := .builtin .append, args := #[s, x], argTypes := #[T, T] }) (base : Nat) (v : Value) (n : Nat) (xs : List Value) (hs : a.eval s = v) (hown : w.ownsRow base E k v n xs)
    (xv : Value) (m : Nat) (nw : List Value) (hx : a.eval x = xv) (hb : RowAt w xv k m nw) (h1 : ∀ u ∈ nw, u.oneCell' = true) (hl : n + m ≤ 1000000) (hbase : base ≤ w.heap.size)
    (h : ∀ c d w', w'.ownsRow base E k (.slice c (n + m) d) (n + m) (xs ++ nw) → w.grownBy w' v.ownBlock → ((Value.slice c (n + m) d).ownBlock = v.ownBlock ∨ (Value.slice c (n + m) d).ownBlock = some w.heap.size) → wpListIn F nF P ops Q rest (a.put o.dst (.slice c (n + m) d)) w') :
    wpListIn F nF P ops Q (o :: rest) a w := by
  refine wpListIn_plain hgd fun K hK => ?_
  obtain ⟨v', w', hr, h2, h3, h4⟩ := HA.run w o.type base v n xs hown xv m nw hb h1 hl hbase
  obtain ⟨c, d, rfl⟩ := slice_of_row h2
  unfold Oper.wpIn
  refine ⟨by simp [Oper.about, ho, resolve, Target.leads, Sem.run_pure], ?_⟩
  rw [Oper.semAt_plain F _ _ (by rw [ho]; intro c hc'; cases hc')]
  simp [execOp, ho, resolve, invoke, builtin, hs, hx, hr, Result.andThen]
  exact hK _ _ (h c d w' h2 h3 h4)
theorem stepIn_append_row {F : Fence} {nF : Nat} {P : Program} {T E : TypeId} {k : Nat} (HA : App P T E k) (w : World) {ops : Array Oper} {o : Oper} {a : Act} {K : Act → World → Prop} {Q : Exit → Act → World → Prop} {G : Prop} (hgd : o.guard = none) (s x : Operand)
    (ho : o.op = .call { callee := .builtin .append, args := #[s, x], argTypes := #[T, T] }) (base : Nat) (v : Value) (n : Nat) (xs : List Value) (hs : a.eval s = v) (hown : w.ownsRow base E k v n xs)
    (xv : Value) (m : Nat) (nw : List Value) (hx : a.eval x = xv) (hb : RowAt w xv k m nw) (h1 : ∀ u ∈ nw, u.oneCell' = true) (hl : n + m ≤ 1000000) (hbase : base ≤ w.heap.size)
    (h : ∀ c d w', w'.ownsRow base E k (.slice c (n + m) d) (n + m) (xs ++ nw) → w.grownBy w' v.ownBlock → ((Value.slice c (n + m) d).ownBlock = v.ownBlock ∨ (Value.slice c (n + m) d).ownBlock = some w.heap.size) → K (a.put o.dst (.slice c (n + m) d)) w') :
    if Region.wanted o (yielded ops a.tmps) = true then Oper.wpIn F nF P o a w K Q else G := by
  have hw : Region.wanted o (yielded ops a.tmps) = true := by simp [Region.wanted, hgd]
  rw [if_pos hw]
  obtain ⟨v', w', hr, h2, h3, h4⟩ := HA.run w o.type base v n xs hown xv m nw hb h1 hl hbase
  obtain ⟨c, d, rfl⟩ := slice_of_row h2
  unfold Oper.wpIn
  refine ⟨by simp [Oper.about, ho, resolve, Target.leads, Sem.run_pure], ?_⟩
  rw [Oper.semAt_plain F _ _ (by rw [ho]; intro c hc'; cases hc')]
  simp [execOp, ho, resolve, invoke, builtin, hs, hx, hr, Result.andThen]
  exact h c d w' h2 h3 h4
theorem step_append_row {P : Program} {T E : TypeId} {k : Nat} (HA : App P T E k) (w : World) {ops : Array Oper} {o : Oper} {a : Act} {K : Act → World → Prop} {Q : Exit → Act → World → Prop} {G : Prop} (hgd : o.guard = none) (s x : Operand)
    (ho : o.op = .call { callee := .builtin .append, args := #[s, x], argTypes := #[T, T] }) (base : Nat) (v : Value) (n : Nat) (xs : List Value) (hs : a.eval s = v) (hown : w.ownsRow base E k v n xs)
    (xv : Value) (m : Nat) (nw : List Value) (hx : a.eval x = xv) (hb : RowAt w xv k m nw) (h1 : ∀ u ∈ nw, u.oneCell' = true) (hl : n + m ≤ 1000000) (hbase : base ≤ w.heap.size)
    (h : ∀ c d w', w'.ownsRow base E k (.slice c (n + m) d) (n + m) (xs ++ nw) → w.grownBy w' v.ownBlock → ((Value.slice c (n + m) d).ownBlock = v.ownBlock ∨ (Value.slice c (n + m) d).ownBlock = some w.heap.size) → K (a.put o.dst (.slice c (n + m) d)) w') :
    if Region.wanted o (yielded ops a.tmps) = true then Oper.wp P o a w K Q else G := by
  have hw : Region.wanted o (yielded ops a.tmps) = true := by simp [Region.wanted, hgd]
  rw [if_pos hw]
  obtain ⟨v', w', hr, h2, h3, h4⟩ := HA.run w o.type base v n xs hown xv m nw hb h1 hl hbase
  obtain ⟨c, d, rfl⟩ := slice_of_row h2
  unfold Oper.wp execOp
  simp only [ho, resolve, invoke, builtin, Sem.run_bind, Sem.run_pure, Result.andThen_ok, List.map_toArray, List.map_cons, List.map_nil, hs, hx, hr]
  exact h c d w' h2 h3 h4

theorem frozen_of_heap {w : World} {b i : Nat} {c : Array Value} {e : TypeId} (h : w.heap[b]? = some (.cells c e)) : w.frozen? ⟨b, i, none⟩ = false := by simp [World.frozen?, h]
theorem cell_of_heap {w : World} {b i : Nat} {c : Array Value} {e : TypeId} {fr : Nat × Nat} (h : w.heap[b]? = some (.cells c e fr)) : w.cell? ⟨b, i, none⟩ = c[i]? := by simp [World.cell?, h]
theorem heap_setCell_same {w : World} {b i : Nat} {cs : Array Value} {t : TypeId} {fr : Nat × Nat} (h : w.heap[b]? = some (.cells cs t fr)) (v : Value) : (w.setCell ⟨b, i, none⟩ v).heap[b]? = some (.cells (cs.set! i v) t fr) := by
  simp only [World.setCell, Array.getElem?_modify, h, if_true]
  rfl
theorem ownsRow_set {w : World} {base : Nat} {e : TypeId} {size n : Nat} {v : Value} {xs : List Value} (h : w.ownsRow base e size v n xs) {g : Nat} (hg : v.ownBlock = some g) {i : Nat} (u : Value) : (w.setCell ⟨g, i, none⟩ u).ownsRow base e size v n (xs.set i u) := by
  rcases h.2 with ⟨rfl, _⟩ | ⟨g', cap, cur, rfl, hb, hh, h1, h2, h3, h4⟩
  · cases hg
  · simp [Value.ownBlock] at hg
    subst hg
    have hl := h.1
    refine ⟨by rw [List.length_set]; exact hl, Or.inr ⟨g', cap, cur.set! i u, rfl, hb, ?_, h1, h2, by simpa using h3, ?_⟩⟩
    · have := heap_setCell_same (w := w) (b := g') (i := i) hh u
      simpa using this
    · rw [← h4]
      simp [List.take_set]
/-- The cells of an owned row. -/
theorem row_cell {w : World} {base : Nat} {e : TypeId} {size n g c : Nat} {xs : List Value} (h : w.ownsRow base e size (.slice (some ⟨g, 0, none⟩) n c) n xs) {j : Nat} (hj : j < n * size) : (∃ u, w.cell? ⟨g, j, none⟩ = some u) ∧ w.frozen? ⟨g, j, none⟩ = false := by
  have hl := h.1
  have hj' : j < xs.length := by omega
  have hc := h.cells (g := g) rfl j xs[j] (by simp [hj'])
  rw [Addr.add_lit, Nat.zero_add] at hc
  refine ⟨⟨_, hc⟩, ?_⟩
  rcases h.2 with ⟨e, _⟩ | ⟨g', cap, cur, e, hb, hh, h1, h2, h3, h4⟩
  · cases e
  · cases e
    simp [World.frozen?, hh]
theorem step_call1 (w : World) {P : Program} {ops : Array Oper} {o : Oper} {a : Act} {K : Act → World → Prop} {Q : Exit → Act → World → Prop} {E : Prop} (hgd : o.guard = none) (f : Nat) (x : Operand) (t : TypeId)
    (ho : o.op = .call { callee := .value (.func f), args := #[x], argTypes := #[t] }) (v : Value) (hx : a.eval x = v) (he : ∀ args w, (callFunc f args).run P w = .ok (.enter f args) w) (R : Value → World → Prop)
    (hc : Calls P f #[v] w fun e w' => ∃ u, e = .returned u ∧ R u w') (h : ∀ u w', R u w' → K (a.put o.dst u) w') :
    if Region.wanted o (yielded ops a.tmps) = true then Oper.wp P o a w K Q else E := by
  have hw : Region.wanted o (yielded ops a.tmps) = true := by simp [Region.wanted, hgd]
  rw [if_pos hw]
  have hfn : a.eval (.func f) = .func (.func f) #[] #[] := rfl
  unfold Oper.wp execOp
  simp only [ho, resolve, hfn, hx, Sem.run_bind, List.map_toArray, List.map_cons, List.map_nil]
  simp only [Deferred.ofValue, invoke, Sem.run_pure, Result.andThen_ok, Array.append_empty, he]
  refine hc.mono ?_
  rintro e w' ⟨u, rfl, hu⟩
  exact h u w' hu
theorem step_call2 (w : World) {P : Program} {ops : Array Oper} {o : Oper} {a : Act} {K : Act → World → Prop} {Q : Exit → Act → World → Prop} {E : Prop} (hgd : o.guard = none) (f : Nat) (x y : Operand) (t s : TypeId)
    (ho : o.op = .call { callee := .value (.func f), args := #[x, y], argTypes := #[t, s] }) (v u : Value) (hx : a.eval x = v) (hy : a.eval y = u) (he : ∀ args w, (callFunc f args).run P w = .ok (.enter f args) w) (R : Value → World → Prop)
    (hc : Calls P f #[v, u] w fun e w' => ∃ z, e = .returned z ∧ R z w') (h : ∀ z w', R z w' → K (a.put o.dst z) w') :
    if Region.wanted o (yielded ops a.tmps) = true then Oper.wp P o a w K Q else E := by
  have hw : Region.wanted o (yielded ops a.tmps) = true := by simp [Region.wanted, hgd]
  rw [if_pos hw]
  have hfn : a.eval (.func f) = .func (.func f) #[] #[] := rfl
  unfold Oper.wp execOp
  simp only [ho, resolve, hfn, hx, hy, Sem.run_bind, List.map_toArray, List.map_cons, List.map_nil]
  simp only [Deferred.ofValue, invoke, Sem.run_pure, Result.andThen_ok, Array.append_empty, he]
  refine hc.mono ?_
  rintro e w' ⟨z, rfl, hz⟩
  exact h z w' hz

end Go.Proofs.YtmbkcmfcdjccoaaDoor
