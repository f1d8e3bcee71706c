/- Small laws on worlds: what a call leaves of other blocks; the disk's block, its maps, its files; a map's entry taken away or put at a step of a statement whose order is open. -/
import Derived.Test.YtihoccaaecmcfaaW1
import Derived.Maps.OwnSet
import Derived.Deep.RegionHeld3
import Derived.Deep.AppendLies
import Derived.Deep.QuietTactic
import Derived.BigQuiet
namespace Go.Proofs.Ytihoccaaecmcfaa
open Go.RowKit Go.Maps

/-- Blocks outside O are as they were. -/
structure Kept (O : Nat → Prop) (w w' : World) : Prop where
  os : w'.os = w.os
  tape : w'.tape = w.tape
  output : w'.output = w.output
  size : w.heap.size ≤ w'.heap.size
  block : ∀ k, k < w.heap.size → ¬ O k → w'.heap[k]? = w.heap[k]?

theorem Kept.refl (O : Nat → Prop) (w : World) : Kept O w w := ⟨rfl, rfl, rfl, Nat.le_refl _, fun _ _ _ => rfl⟩
theorem Kept.trans {O O' : Nat → Prop} {a b c : World} (h : Kept O a b) (k : Kept O' b c) (hO : ∀ i, i < a.heap.size → O' i → O i) : Kept O a c :=
  ⟨k.os.trans h.os, k.tape.trans h.tape, k.output.trans h.output, Nat.le_trans h.size k.size, fun i hi hn => (k.block i (Nat.lt_of_lt_of_le hi h.size) (fun h' => hn (hO i hi h'))).trans (h.block i hi hn)⟩
theorem Kept.mono {O O' : Nat → Prop} {a b : World} (h : Kept O a b) (hO : ∀ i, i < a.heap.size → O i → O' i) : Kept O' a b :=
  ⟨h.os, h.tape, h.output, h.size, fun i hi hn => h.block i hi (fun h' => hn (hO i hi h'))⟩
theorem Kept.drew {O : Nat → Prop} {a b : World} (h : Kept O a b) : Kept O a b.drew := ⟨h.os, h.tape, h.output, h.size, h.block⟩
theorem Kept.drewN {O : Nat → Prop} {a b : World} (h : Kept O a b) (n : Nat) : Kept O a (b.drewN n) := ⟨h.os, h.tape, h.output, h.size, h.block⟩
theorem Kept.alloc {O : Nat → Prop} {a b : World} (h : Kept O a b) (o : Obj) : Kept O a (b.alloc o) :=
  ⟨h.os, h.tape, h.output, Nat.le_trans h.size (by simp), fun i hi hn => (Below.heap_alloc b o i (Nat.lt_of_lt_of_le hi h.size)).trans (h.block i hi hn)⟩
theorem Kept.setCell {O : Nat → Prop} {a b : World} (h : Kept O a b) {p : Addr} (hp : p.block < a.heap.size → O p.block) (u : Value) : Kept O a (b.setCell p u) :=
  ⟨h.os, h.tape, h.output, Nat.le_trans h.size (by simp [World.setCell]), fun i hi hn => (Below.heap_setCell b p u i (fun e => hn (by subst e; exact hp hi))).trans (h.block i hi hn)⟩
theorem Kept.grown {O : Nat → Prop} {a b c : World} {row : Option Nat} (h : Kept O a b) (g : b.grownBy c row) (hr : ∀ k, k < a.heap.size → row = some k → O k) : Kept O a c :=
  ⟨g.os.trans h.os, g.tape.trans h.tape, g.output.trans h.output, Nat.le_trans h.size g.size, fun i hi hn => (g.block i (Nat.lt_of_lt_of_le hi h.size) (fun e => hn (hr i hi e.symm))).trans (h.block i hi hn)⟩
theorem Kept.turned {O : Nat → Prop} {a b c : World} {m : Nat} (h : Kept O a b) (g : b.mapTurned c m) (hm : m < a.heap.size → O m) : Kept O a c :=
  h.grown g.grown (fun k hk e => by cases e; exact hm hk)
theorem Kept.below {O : Nat → Prop} {a b c : World} (h : Kept O a b) (g : Below b.heap.size b c) : Kept O a c :=
  ⟨g.os.trans h.os, g.tape.trans h.tape, g.output.trans h.output, Nat.le_trans h.size g.size, fun i hi hn => (g.block i (Nat.lt_of_lt_of_le hi h.size)).trans (h.block i hi hn)⟩
theorem Kept.toBelow {O : Nat → Prop} {a b : World} {B : Nat} (h : Kept O a b) (hB : B ≤ a.heap.size) (hO : ∀ i, O i → B ≤ i) : Below B a b :=
  ⟨h.os, h.tape, h.output, h.size, fun i hi => h.block i (by omega) (fun h' => by have := hO i h'; omega)⟩

theorem Kept.ownsMap {H : Type} {O : Nat → Prop} {w w' : World} (h : Kept O w w') {k : TypeId} {R : Value → Option (DataW H × List MemPlace)} {b n : Nat} {D : DataW H} (ho : w.ownsMap Try.prog k R b n D) (hb : ¬ O b) : w'.ownsMap Try.prog k R b n D := by
  have hlt := ho.lt
  obtain ⟨es, clock, hh, F, hs, hD⟩ := ho
  exact ⟨es, clock, (h.block b hlt hb).trans hh, F, hs, hD⟩
theorem Kept.ownsRow {O : Nat → Prop} {w w' : World} (h : Kept O w w') {base : Nat} {e : TypeId} {size : Nat} {v : Value} {n : Nat} {xs : List Value} (ho : w.ownsRow base e size v n xs) (hb : ∀ k, v.ownBlock = some k → ¬ O k) : w'.ownsRow base e size v n xs := by
  refine ⟨ho.1, ?_⟩
  rcases ho.2 with h2 | ⟨g, cap, cur, rfl, hg, hh, r⟩
  · exact Or.inl h2
  · exact Or.inr ⟨g, cap, cur, rfl, hg, (h.block g (Array.getElem?_eq_some_iff.1 hh).1 (hb g rfl)).trans hh, r⟩
theorem Kept.heap {O : Nat → Prop} {w w' : World} (h : Kept O w w') {k : Nat} {o : Obj} (ho : w.heap[k]? = some o) (hk : ¬ O k) : w'.heap[k]? = some o :=
  (h.block k (Array.getElem?_eq_some_iff.1 ho).1 hk).trans ho

/-- The disk's own block. -/
def DiskAt (w : World) (d : Nat) (cap used ops : Int) (nb db : Nat) (pv : Value) (fb : Nat) (stop : Int) : Prop :=
  w.heap[d]? = some (.cells #[.int .i64 cap, .int .i64 used, .int .i64 ops, .map (some nb), .map (some db), pv, .map (some fb), .int .i64 stop] 69)

theorem cell_of_heap {w : World} {b i : Nat} {c : Array Value} {e : TypeId} {fr : Nat × Nat} (h : w.heap[b]? = some (.cells c e fr)) : w.cell? ⟨b, i, none⟩ = c[i]? := by simp [World.cell?, h]
theorem frozen_of_heap {w : World} {b i : Nat} {c : Array Value} {e : TypeId} (h : w.heap[b]? = some (.cells c e)) : w.frozen? ⟨b, i, none⟩ = false := by simp [World.frozen?, h]
theorem heap_setCell_same {w : World} {b i : Nat} {c : Array Value} {e : TypeId} {fr : Nat × Nat} (h : w.heap[b]? = some (.cells c e fr)) (u : Value) : (w.setCell ⟨b, i, none⟩ u).heap[b]? = some (.cells (c.setIfInBounds i u) e fr) := by
  simp [World.setCell, Array.getElem?_modify, h]

theorem DiskAt.cells {w : World} {d : Nat} {cap used ops : Int} {nb db : Nat} {pv : Value} {fb : Nat} {stop : Int} (h : DiskAt w d cap used ops nb db pv fb stop) :
    w.cell? ⟨d, 0, none⟩ = some (.int .i64 cap) ∧ w.cell? ⟨d, 1, none⟩ = some (.int .i64 used) ∧ w.cell? ⟨d, 2, none⟩ = some (.int .i64 ops) ∧ w.cell? ⟨d, 3, none⟩ = some (.map (some nb)) ∧
    w.cell? ⟨d, 4, none⟩ = some (.map (some db)) ∧ w.cell? ⟨d, 5, none⟩ = some pv ∧ w.cell? ⟨d, 6, none⟩ = some (.map (some fb)) ∧ w.cell? ⟨d, 7, none⟩ = some (.int .i64 stop) ∧ (∀ i, w.frozen? ⟨d, i, none⟩ = false) := by
  unfold DiskAt at h
  refine ⟨?_, ?_, ?_, ?_, ?_, ?_, ?_, ?_, fun i => frozen_of_heap h⟩ <;> (rw [cell_of_heap h]; rfl)

theorem DiskAt.ne_map {w : World} {d : Nat} {cap used ops : Int} {nb db : Nat} {pv : Value} {fb : Nat} {stop : Int} (h : DiskAt w d cap used ops nb db pv fb stop) {H : Type} {k : TypeId} {R : Value → Option (DataW H × List MemPlace)} {b n : Nat} {D : DataW H} (ho : w.ownsMap Try.prog k R b n D) : d ≠ b := by
  intro e
  subst e
  obtain ⟨es, clock, hh, _⟩ := ho
  unfold DiskAt at h
  rw [h] at hh
  cases hh

/-- A map's entry taken away, at a step of a statement whose order is open. -/
theorem step_delete {H : Type} {w : World} {ops : Array Oper} {o : Oper} {a : Act} {K : Act → World → Prop} {Q : Exit → Act → World → Prop} {E : Prop} (hgd : o.guard = none) (m x : Operand) (t k e : TypeId)
    (ho : o.op = .call { callee := .builtin .delete, args := #[m, x], argTypes := #[t, k] }) (L : Keyed Try.prog k) (ht : Try.prog.underlying t = some (.map k e)) (R : Value → Option (DataW H × List MemPlace)) (b n : Nat) (D : DataW H)
    (hm : a.eval m = .map (some b)) (hown : w.ownsMap Try.prog k R b n D) (key : Value) (kl : Lit) (hx : a.eval x = key) (hkey : keyOf Try.prog k key = some kl)
    (h : ∀ w', w'.ownsMap Try.prog k R b n (D.del kl) → w.mapTurned w' b → K (a.put o.dst (.tuple #[])) w') :
    if Region.wanted o (yielded ops a.tmps) = true then Oper.wp Try.prog o a w K Q else E := by
  have hw : Region.wanted o (yielded ops a.tmps) = true := by simp [Region.wanted, hgd]
  rw [if_pos hw]
  obtain ⟨w', hrun, h1, h2⟩ := hown.drop L ht hkey o.type
  unfold Oper.wp execOp
  simp only [ho, resolve, invoke, builtin, Sem.run_bind, Sem.run_pure, Result.andThen_ok, List.map_toArray, List.map_cons, List.map_nil, hm, hx, hrun]
  exact h w' h1 h2

theorem DiskAt.turned {w w' : World} {d : Nat} {cap used ops : Int} {nb db : Nat} {pv : Value} {fb : Nat} {stop : Int} {b : Nat} (h : DiskAt w d cap used ops nb db pv fb stop) (ht : w.mapTurned w' b) (hne : d ≠ b) : DiskAt w' d cap used ops nb db pv fb stop := by
  unfold DiskAt at *
  exact (ht.grown.block d (Array.getElem?_eq_some_iff.1 h).1 (by simpa using hne)).trans h

section
variable {w : World} {d : Nat} {cap used ops : Int} {nb db : Nat} {pv : Value} {fb : Nat} {stop : Int} (h : DiskAt w d cap used ops nb db pv fb stop)
include h
theorem DiskAt.set0 (x : Int) : DiskAt (w.setCell ⟨d, 0, none⟩ (.int .i64 x)) d x used ops nb db pv fb stop := heap_setCell_same h _
theorem DiskAt.set1 (x : Int) : DiskAt (w.setCell ⟨d, 1, none⟩ (.int .i64 x)) d cap x ops nb db pv fb stop := heap_setCell_same h _
theorem DiskAt.set2 (x : Int) : DiskAt (w.setCell ⟨d, 2, none⟩ (.int .i64 x)) d cap used x nb db pv fb stop := heap_setCell_same h _
theorem DiskAt.set3 (x : Nat) : DiskAt (w.setCell ⟨d, 3, none⟩ (.map (some x))) d cap used ops x db pv fb stop := heap_setCell_same h _
theorem DiskAt.set5 (x : Value) : DiskAt (w.setCell ⟨d, 5, none⟩ x) d cap used ops nb db x fb stop := heap_setCell_same h _
theorem DiskAt.set7 (x : Int) : DiskAt (w.setCell ⟨d, 7, none⟩ (.int .i64 x)) d cap used ops nb db pv fb x := heap_setCell_same h _
theorem DiskAt.kept {O : Nat → Prop} {w' : World} (k : Kept O w w') (hO : ¬ O d) : DiskAt w' d cap used ops nb db pv fb stop := k.heap h hO
theorem DiskAt.other {a : Addr} (hne : d ≠ a.block) (u : Value) : DiskAt (w.setCell a u) d cap used ops nb db pv fb stop := (Below.heap_setCell w a u d hne).trans h
theorem DiskAt.alloc (o : Obj) : DiskAt (w.alloc o) d cap used ops nb db pv fb stop := (Below.heap_alloc w o d (Array.getElem?_eq_some_iff.1 h).1).trans h
theorem DiskAt.lt : d < w.heap.size := (Array.getElem?_eq_some_iff.1 h).1
end

theorem map_ne_row {H : Type} {w : World} {k : TypeId} {R : Value → Option (DataW H × List MemPlace)} {b n : Nat} {D : DataW H} (hm : w.ownsMap Try.prog k R b n D) {base m size : Nat} {e : TypeId} {v : Value} {xs : List Value} (ho : w.ownsRow base e size v m xs) : v.ownBlock ≠ some b := by
  intro hv
  obtain ⟨es, cl, hb, _⟩ := hm
  rcases ho.2 with ⟨rfl, _⟩ | ⟨g, cap, cur, rfl, _, hg, _⟩
  · cases hv
  · simp [Value.ownBlock] at hv
    subst hv
    rw [hb] at hg
    cases hg

theorem law3 : Keyed Try.prog 3 := int_keyed Try.underlying3
theorem law9 : Keyed Try.prog 9 := string_keyed Try.underlying9

end Go.Proofs.Ytihoccaaecmcfaa
