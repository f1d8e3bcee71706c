/- Texts that belong together. -/
import Derived.Test.YtipakfdebccchaaProg
import Derived.WalkKit
import Derived.WalkSpells
import Derived.WalkLawsBesides
import Derived.Maps.OwnSet
import Derived.Deep.RegionHeld3
import Derived.Deep.AppendLies
import Derived.Deep.QuietTactic
import Derived.BigQuiet
/- Which names are right: the program's rightByte and rightName answer one plain function of the bytes. -/
namespace Go.Proofs.Ytipakfdebccchaa
open Go.RowKit

def rb (c : Int) : Bool := decide (97 ≤ c ∧ c ≤ 122) || decide (48 ≤ c ∧ c ≤ 57) || decide (c = 46) || decide (c = 47) || decide (c = 45) || decide (c = 95)
def allRb (l : List UInt8) : Bool := l.all fun c => rb c.toNat
def rn (s : ByteArray) : Bool := decide (1 ≤ s.size ∧ s.size ≤ 64) && allRb s.data.toList

theorem ret_bool {a b : Bool} (h : a = b) : Ending.returned (.bool a) = .returned (.bool b) := by rw [h]
theorem take_snoc (s : ByteArray) (k : Nat) (h : k < s.size) : s.data.toList.take (k + 1) = s.data.toList.take k ++ [s[k]] := by
  rw [List.take_succ_eq_append_getElem (by simpa using h)]; rfl
theorem allRb_snoc (s : ByteArray) (k : Nat) (h : k < s.size) : allRb (s.data.toList.take (k + 1)) = (allRb (s.data.toList.take k) && rb s[k].toNat) := by
  rw [take_snoc s k h]; simp [allRb]
theorem allRb_take {l : List UInt8} {k : Nat} (h : allRb (l.take k) = false) : allRb l = false := by
  unfold allRb at *
  rw [List.all_eq_false] at h ⊢
  obtain ⟨x, hx, hr⟩ := h
  exact ⟨x, List.mem_of_mem_take hx, hr⟩

set_option maxHeartbeats 400000 in
theorem rightByte_any (c : Int) (w : World) (h0 : 0 ≤ c) (h1 : c ≤ 255) :
    Calls Try.prog 74 #[.int .u8 c] w fun e w' => e = .returned (.bool (rb c)) ∧ w' = w := by
  go_enter Try.func74, Try.ntmps74
  go_wp2
  all_goals go_ret
  all_goals refine ⟨ret_bool ?_, rfl⟩
  all_goals (rw [Bool.eq_iff_iff]; simp [rb]; try omega)

theorem rightByte_u8 (c : UInt8) (w : World) :
    Calls Try.prog 74 #[.int .u8 c.toNat] w fun e w' => e = .returned (.bool (rb c.toNat)) ∧ w' = w :=
  rightByte_any _ w (by omega) (by have := c.toNat_lt; omega)

theorem rn_bad {s : ByteArray} (h : ¬ (1 ≤ s.size ∧ s.size ≤ 64)) : rn s = false := by simp [rn, h]
theorem rn_ok {s : ByteArray} (h1 : 1 ≤ s.size) (h2 : s.size ≤ 64) (h : allRb s.data.toList = true) : rn s = true := by simp [rn, h1, h2, h]
theorem rn_no {s : ByteArray} (h : allRb s.data.toList = false) : rn s = false := by simp [rn, h]

set_option maxHeartbeats 400000 in
theorem rightName_any (s : ByteArray) (w : World) (hs : s.size ≤ maxLen) :
    Calls Try.prog 67 #[.string s] w fun e w' => e = .returned (.bool (rn s)) ∧ w' = w := by
  unfold maxLen at hs
  by_cases hb : 1 ≤ s.size ∧ s.size ≤ 64
  · obtain ⟨hb1, hb2⟩ := hb
    go_enter Try.func67, Try.ntmps67
    go_wp2
    go_loop [14] (fun i => ∃ k : Nat, k ≤ s.size ∧ i = .int .i64 k ∧ allRb (s.data.toList.take k) = true) (fun i => s.size - (intOf i).toNat)
    case atStart => exact ⟨0, Nat.zero_le _, rfl, by simp [allRb]⟩
    case round =>
      obtain ⟨k, hk, rfl, hall⟩ := hrel
      by_cases hlt : k < s.size
      · have HS : Hid (allRb (s.data.toList.take (k + 1)) = rb s[k].toNat) := by
          have := allRb_snoc s k hlt
          rw [hall, Bool.true_and] at this
          exact this
        clear hall
        cases hr : rb s[k].toNat
        · have HN : Hid (rn s = false) := by
            have h1 := HS.out
            rw [hr] at h1
            exact rn_no (allRb_take h1)
          go_wp2_with (go_at_call 74; refine (rightByte_u8 _ _).mono ?_; rintro e w' ⟨rfl, rfl⟩)
          go_ret
          exact ⟨ret_bool HN.out.symm, rfl⟩
        · have HN : Hid (allRb (s.data.toList.take (k + 1)) = true) := by
            have h1 := HS.out
            rw [hr] at h1
            exact h1
          go_wp2_with (go_at_call 74; refine (rightByte_u8 _ _).mono ?_; rintro e w' ⟨rfl, rfl⟩)
          go_round
          case rel => exact ⟨k + 1, by omega, by go_num, HN.out⟩
          case measure => simp [intOf]; omega
      · have HN : Hid (rn s = true) := by
          rw [List.take_of_length_le (by simp; omega)] at hall
          exact rn_ok hb1 hb2 hall
        go_wp2
        go_ret
        exact ⟨ret_bool HN.out.symm, rfl⟩
  · have HN : Hid (rn s = false) := rn_bad hb
    go_enter Try.func67, Try.ntmps67
    go_wp2
    all_goals first | (go_ret; exact ⟨ret_bool HN.out.symm, rfl⟩) | (exfalso; omega)

end Go.Proofs.Ytipakfdebccchaa

/- Small laws on worlds: what a call leaves of other blocks; the disk's block, its maps, its files; a map's entry taken away or put at a step of a statement whose order is open. -/
namespace Go.Proofs.Ytipakfdebccchaa
open Go.RowKit Go.Maps

/-- Blocks outside O are as they were. -/
structure Kept (O : Nat → Prop) (w w' : World) : Prop where
  os : w'.os = w.os
  tape : w'.tape = w.tape
  output : w'.output = w.output
  size : w.heap.size ≤ w'.heap.size
  block : ∀ k, k < w.heap.size → ¬ O k → w'.heap[k]? = w.heap[k]?

theorem Kept.refl (O : Nat → Prop) (w : World) : Kept O w w := ⟨rfl, rfl, rfl, Nat.le_refl _, fun _ _ _ => rfl⟩
theorem Kept.trans {O O' : Nat → Prop} {a b c : World} (h : Kept O a b) (k : Kept O' b c) (hO : ∀ i, i < a.heap.size → O' i → O i) : Kept O a c :=
  ⟨k.os.trans h.os, k.tape.trans h.tape, k.output.trans h.output, Nat.le_trans h.size k.size, fun i hi hn => (k.block i (Nat.lt_of_lt_of_le hi h.size) (fun h' => hn (hO i hi h'))).trans (h.block i hi hn)⟩
theorem Kept.mono {O O' : Nat → Prop} {a b : World} (h : Kept O a b) (hO : ∀ i, i < a.heap.size → O i → O' i) : Kept O' a b :=
  ⟨h.os, h.tape, h.output, h.size, fun i hi hn => h.block i hi (fun h' => hn (hO i hi h'))⟩
theorem Kept.drew {O : Nat → Prop} {a b : World} (h : Kept O a b) : Kept O a b.drew := ⟨h.os, h.tape, h.output, h.size, h.block⟩
theorem Kept.drewN {O : Nat → Prop} {a b : World} (h : Kept O a b) (n : Nat) : Kept O a (b.drewN n) := ⟨h.os, h.tape, h.output, h.size, h.block⟩
theorem Kept.alloc {O : Nat → Prop} {a b : World} (h : Kept O a b) (o : Obj) : Kept O a (b.alloc o) :=
  ⟨h.os, h.tape, h.output, Nat.le_trans h.size (by simp), fun i hi hn => (Below.heap_alloc b o i (Nat.lt_of_lt_of_le hi h.size)).trans (h.block i hi hn)⟩
theorem Kept.setCell {O : Nat → Prop} {a b : World} (h : Kept O a b) {p : Addr} (hp : p.block < a.heap.size → O p.block) (u : Value) : Kept O a (b.setCell p u) :=
  ⟨h.os, h.tape, h.output, Nat.le_trans h.size (by simp [World.setCell]), fun i hi hn => (Below.heap_setCell b p u i (fun e => hn (by subst e; exact hp hi))).trans (h.block i hi hn)⟩
theorem Kept.grown {O : Nat → Prop} {a b c : World} {row : Option Nat} (h : Kept O a b) (g : b.grownBy c row) (hr : ∀ k, k < a.heap.size → row = some k → O k) : Kept O a c :=
  ⟨g.os.trans h.os, g.tape.trans h.tape, g.output.trans h.output, Nat.le_trans h.size g.size, fun i hi hn => (g.block i (Nat.lt_of_lt_of_le hi h.size) (fun e => hn (hr i hi e.symm))).trans (h.block i hi hn)⟩
theorem Kept.turned {O : Nat → Prop} {a b c : World} {m : Nat} (h : Kept O a b) (g : b.mapTurned c m) (hm : m < a.heap.size → O m) : Kept O a c :=
  h.grown g.grown (fun k hk e => by cases e; exact hm hk)
theorem Kept.below {O : Nat → Prop} {a b c : World} (h : Kept O a b) (g : Below b.heap.size b c) : Kept O a c :=
  ⟨g.os.trans h.os, g.tape.trans h.tape, g.output.trans h.output, Nat.le_trans h.size g.size, fun i hi hn => (g.block i (Nat.lt_of_lt_of_le hi h.size)).trans (h.block i hi hn)⟩
theorem Kept.toBelow {O : Nat → Prop} {a b : World} {B : Nat} (h : Kept O a b) (hB : B ≤ a.heap.size) (hO : ∀ i, O i → B ≤ i) : Below B a b :=
  ⟨h.os, h.tape, h.output, h.size, fun i hi => h.block i (by omega) (fun h' => by have := hO i h'; omega)⟩

theorem Kept.ownsMap {H : Type} {O : Nat → Prop} {w w' : World} (h : Kept O w w') {k : TypeId} {R : Value → Option (DataW H × List MemPlace)} {b n : Nat} {D : DataW H} (ho : w.ownsMap Try.prog k R b n D) (hb : ¬ O b) : w'.ownsMap Try.prog k R b n D := by
  have hlt := ho.lt
  obtain ⟨es, clock, hh, F, hs, hD⟩ := ho
  exact ⟨es, clock, (h.block b hlt hb).trans hh, F, hs, hD⟩
theorem Kept.ownsRow {O : Nat → Prop} {w w' : World} (h : Kept O w w') {base : Nat} {e : TypeId} {size : Nat} {v : Value} {n : Nat} {xs : List Value} (ho : w.ownsRow base e size v n xs) (hb : ∀ k, v.ownBlock = some k → ¬ O k) : w'.ownsRow base e size v n xs := by
  refine ⟨ho.1, ?_⟩
  rcases ho.2 with h2 | ⟨g, cap, cur, rfl, hg, hh, r⟩
  · exact Or.inl h2
  · exact Or.inr ⟨g, cap, cur, rfl, hg, (h.block g (Array.getElem?_eq_some_iff.1 hh).1 (hb g rfl)).trans hh, r⟩
theorem Kept.heap {O : Nat → Prop} {w w' : World} (h : Kept O w w') {k : Nat} {o : Obj} (ho : w.heap[k]? = some o) (hk : ¬ O k) : w'.heap[k]? = some o :=
  (h.block k (Array.getElem?_eq_some_iff.1 ho).1 hk).trans ho

/-- The disk's own block. -/
def DiskAt (w : World) (d : Nat) (cap used ops : Int) (nb db : Nat) (pv : Value) (fb : Nat) (stop : Int) : Prop :=
  w.heap[d]? = some (.cells #[.int .i64 cap, .int .i64 used, .int .i64 ops, .map (some nb), .map (some db), pv, .map (some fb), .int .i64 stop] 59)

theorem cell_of_heap {w : World} {b i : Nat} {c : Array Value} {e : TypeId} {fr : Nat × Nat} (h : w.heap[b]? = some (.cells c e fr)) : w.cell? ⟨b, i, none⟩ = c[i]? := by simp [World.cell?, h]
theorem frozen_of_heap {w : World} {b i : Nat} {c : Array Value} {e : TypeId} (h : w.heap[b]? = some (.cells c e)) : w.frozen? ⟨b, i, none⟩ = false := by simp [World.frozen?, h]
theorem heap_setCell_same {w : World} {b i : Nat} {c : Array Value} {e : TypeId} {fr : Nat × Nat} (h : w.heap[b]? = some (.cells c e fr)) (u : Value) : (w.setCell ⟨b, i, none⟩ u).heap[b]? = some (.cells (c.setIfInBounds i u) e fr) := by
  simp [World.setCell, Array.getElem?_modify, h]

theorem DiskAt.cells {w : World} {d : Nat} {cap used ops : Int} {nb db : Nat} {pv : Value} {fb : Nat} {stop : Int} (h : DiskAt w d cap used ops nb db pv fb stop) :
    w.cell? ⟨d, 0, none⟩ = some (.int .i64 cap) ∧ w.cell? ⟨d, 1, none⟩ = some (.int .i64 used) ∧ w.cell? ⟨d, 2, none⟩ = some (.int .i64 ops) ∧ w.cell? ⟨d, 3, none⟩ = some (.map (some nb)) ∧
    w.cell? ⟨d, 4, none⟩ = some (.map (some db)) ∧ w.cell? ⟨d, 5, none⟩ = some pv ∧ w.cell? ⟨d, 6, none⟩ = some (.map (some fb)) ∧ w.cell? ⟨d, 7, none⟩ = some (.int .i64 stop) ∧ (∀ i, w.frozen? ⟨d, i, none⟩ = false) := by
  unfold DiskAt at h
  refine ⟨?_, ?_, ?_, ?_, ?_, ?_, ?_, ?_, fun i => frozen_of_heap h⟩ <;> (rw [cell_of_heap h]; rfl)

theorem DiskAt.ne_map {w : World} {d : Nat} {cap used ops : Int} {nb db : Nat} {pv : Value} {fb : Nat} {stop : Int} (h : DiskAt w d cap used ops nb db pv fb stop) {H : Type} {k : TypeId} {R : Value → Option (DataW H × List MemPlace)} {b n : Nat} {D : DataW H} (ho : w.ownsMap Try.prog k R b n D) : d ≠ b := by
  intro e
  subst e
  obtain ⟨es, clock, hh, _⟩ := ho
  unfold DiskAt at h
  rw [h] at hh
  cases hh

/-- A map's entry taken away, at a step of a statement whose order is open. -/
theorem step_delete {H : Type} {w : World} {ops : Array Oper} {o : Oper} {a : Act} {K : Act → World → Prop} {Q : Exit → Act → World → Prop} {E : Prop} (hgd : o.guard = none) (m x : Operand) (t k e : TypeId)
    (ho : o.op = .call { callee := .builtin .delete, args := #[m, x], argTypes := #[t, k] }) (L : Keyed Try.prog k) (ht : Try.prog.underlying t = some (.map k e)) (R : Value → Option (DataW H × List MemPlace)) (b n : Nat) (D : DataW H)
    (hm : a.eval m = .map (some b)) (hown : w.ownsMap Try.prog k R b n D) (key : Value) (kl : Lit) (hx : a.eval x = key) (hkey : keyOf Try.prog k key = some kl)
    (h : ∀ w', w'.ownsMap Try.prog k R b n (D.del kl) → w.mapTurned w' b → K (a.put o.dst (.tuple #[])) w') :
    if Region.wanted o (yielded ops a.tmps) = true then Oper.wp Try.prog o a w K Q else E := by
  have hw : Region.wanted o (yielded ops a.tmps) = true := by simp [Region.wanted, hgd]
  rw [if_pos hw]
  obtain ⟨w', hrun, h1, h2⟩ := hown.drop L ht hkey o.type
  unfold Oper.wp execOp
  simp only [ho, resolve, invoke, builtin, Sem.run_bind, Sem.run_pure, Result.andThen_ok, List.map_toArray, List.map_cons, List.map_nil, hm, hx, hrun]
  exact h w' h1 h2

theorem DiskAt.turned {w w' : World} {d : Nat} {cap used ops : Int} {nb db : Nat} {pv : Value} {fb : Nat} {stop : Int} {b : Nat} (h : DiskAt w d cap used ops nb db pv fb stop) (ht : w.mapTurned w' b) (hne : d ≠ b) : DiskAt w' d cap used ops nb db pv fb stop := by
  unfold DiskAt at *
  exact (ht.grown.block d (Array.getElem?_eq_some_iff.1 h).1 (by simpa using hne)).trans h

section
variable {w : World} {d : Nat} {cap used ops : Int} {nb db : Nat} {pv : Value} {fb : Nat} {stop : Int} (h : DiskAt w d cap used ops nb db pv fb stop)
include h
theorem DiskAt.set0 (x : Int) : DiskAt (w.setCell ⟨d, 0, none⟩ (.int .i64 x)) d x used ops nb db pv fb stop := heap_setCell_same h _
theorem DiskAt.set1 (x : Int) : DiskAt (w.setCell ⟨d, 1, none⟩ (.int .i64 x)) d cap x ops nb db pv fb stop := heap_setCell_same h _
theorem DiskAt.set2 (x : Int) : DiskAt (w.setCell ⟨d, 2, none⟩ (.int .i64 x)) d cap used x nb db pv fb stop := heap_setCell_same h _
theorem DiskAt.set3 (x : Nat) : DiskAt (w.setCell ⟨d, 3, none⟩ (.map (some x))) d cap used ops x db pv fb stop := heap_setCell_same h _
theorem DiskAt.set5 (x : Value) : DiskAt (w.setCell ⟨d, 5, none⟩ x) d cap used ops nb db x fb stop := heap_setCell_same h _
theorem DiskAt.set7 (x : Int) : DiskAt (w.setCell ⟨d, 7, none⟩ (.int .i64 x)) d cap used ops nb db pv fb x := heap_setCell_same h _
theorem DiskAt.kept {O : Nat → Prop} {w' : World} (k : Kept O w w') (hO : ¬ O d) : DiskAt w' d cap used ops nb db pv fb stop := k.heap h hO
theorem DiskAt.other {a : Addr} (hne : d ≠ a.block) (u : Value) : DiskAt (w.setCell a u) d cap used ops nb db pv fb stop := (Below.heap_setCell w a u d hne).trans h
theorem DiskAt.alloc (o : Obj) : DiskAt (w.alloc o) d cap used ops nb db pv fb stop := (Below.heap_alloc w o d (Array.getElem?_eq_some_iff.1 h).1).trans h
theorem DiskAt.lt : d < w.heap.size := (Array.getElem?_eq_some_iff.1 h).1
end

theorem map_ne_row {H : Type} {w : World} {k : TypeId} {R : Value → Option (DataW H × List MemPlace)} {b n : Nat} {D : DataW H} (hm : w.ownsMap Try.prog k R b n D) {base m size : Nat} {e : TypeId} {v : Value} {xs : List Value} (ho : w.ownsRow base e size v m xs) : v.ownBlock ≠ some b := by
  intro hv
  obtain ⟨es, cl, hb, _⟩ := hm
  rcases ho.2 with ⟨rfl, _⟩ | ⟨g, cap, cur, rfl, _, hg, _⟩
  · cases hv
  · simp [Value.ownBlock] at hv
    subst hv
    rw [hb] at hg
    cases hg

theorem law3 : Keyed Try.prog 3 := int_keyed Try.underlying3
theorem law9 : Keyed Try.prog 9 := string_keyed Try.underlying9

end Go.Proofs.Ytipakfdebccchaa
