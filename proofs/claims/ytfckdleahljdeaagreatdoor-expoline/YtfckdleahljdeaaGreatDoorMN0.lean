/- Texts that belong together. -/
import Derived.Test.YtfckdleahljdeaaGreatDoorProg
import Derived.WalkKit
import Derived.WalkSpells
import Derived.WalkLawsBesides
import Derived.Deep.AppendLies
import Derived.Deep.Light
import Derived.Below
import Derived.Deep.QuietTactic
import Derived.BigQuiet
import Derived.Sort.Walk0
import Derived.Laws.MakeOwn
import Derived.Laws.AppendOwnNone
/- Naturals: words of 32 bits, and rows of one's own that hold them. -/
namespace Go.Proofs.YtfckdleahljdeaaGreatDoor.Nu
open Go.RowKit

theorem drewN_drewN (w : World) (a b : Nat) : (w.drewN a).drewN b = w.drewN (a + b) := by
  induction b with
  | zero => rfl
  | succ b ih => show ((w.drewN a).drewN b).drew = _; rw [ih]; rfl
theorem below_drewN {B : Nat} {a w : World} (h : Below B a w) : ∀ q, Below B a (w.drewN q)
  | 0 => h
  | q + 1 => (below_drewN h q).drew
theorem wrapI {x : Int} (h1 : -9223372036854775808 ≤ x) (h2 : x ≤ 9223372036854775807) : IntKind.i64.wrap x = x := by
  rw [IntWalk.i64_left]
  exact IntWalk.wrap64_in x ⟨h1, h2⟩

/-- Blocks outside O are as they were. -/
structure Kept (O : Nat → Prop) (w w' : World) : Prop where
  os : w'.os = w.os
  tape : w'.tape = w.tape
  output : w'.output = w.output
  size : w.heap.size ≤ w'.heap.size
  block : ∀ k, k < w.heap.size → ¬ O k → w'.heap[k]? = w.heap[k]?

theorem Kept.refl (O : Nat → Prop) (w : World) : Kept O w w := ⟨rfl, rfl, rfl, Nat.le_refl _, fun _ _ _ => rfl⟩
theorem Kept.trans {O O' : Nat → Prop} {a b c : World} (h : Kept O a b) (k : Kept O' b c) (hO : ∀ i, i < a.heap.size → O' i → O i) : Kept O a c :=
  ⟨k.os.trans h.os, k.tape.trans h.tape, k.output.trans h.output, Nat.le_trans h.size k.size, fun i hi hn => (k.block i (Nat.lt_of_lt_of_le hi h.size) (fun h' => hn (hO i hi h'))).trans (h.block i hi hn)⟩
theorem Kept.mono {O O' : Nat → Prop} {a b : World} (h : Kept O a b) (hO : ∀ i, i < a.heap.size → O i → O' i) : Kept O' a b :=
  ⟨h.os, h.tape, h.output, h.size, fun i hi hn => h.block i hi (fun h' => hn (hO i hi h'))⟩
theorem Kept.drewN {O : Nat → Prop} {a b : World} (h : Kept O a b) (n : Nat) : Kept O a (b.drewN n) := ⟨h.os, h.tape, h.output, h.size, h.block⟩
theorem Kept.alloc {O : Nat → Prop} {a b : World} (h : Kept O a b) (o : Obj) : Kept O a (b.alloc o) :=
  ⟨h.os, h.tape, h.output, Nat.le_trans h.size (by simp), fun i hi hn => (Below.heap_alloc b o i (Nat.lt_of_lt_of_le hi h.size)).trans (h.block i hi hn)⟩
theorem Kept.setCell {O : Nat → Prop} {a b : World} (h : Kept O a b) {p : Addr} (hp : p.block < a.heap.size → O p.block) (u : Value) : Kept O a (b.setCell p u) :=
  ⟨h.os, h.tape, h.output, Nat.le_trans h.size (by simp [World.setCell]), fun i hi hn => (Below.heap_setCell b p u i (fun e => hn (by subst e; exact hp hi))).trans (h.block i hi hn)⟩
theorem Kept.grown {O : Nat → Prop} {a b c : World} {row : Option Nat} (h : Kept O a b) (g : b.grownBy c row) (hr : ∀ k, k < a.heap.size → row = some k → O k) : Kept O a c :=
  ⟨g.os.trans h.os, g.tape.trans h.tape, g.output.trans h.output, Nat.le_trans h.size g.size, fun i hi hn => (g.block i (Nat.lt_of_lt_of_le hi h.size) (fun e => hn (hr i hi e.symm))).trans (h.block i hi hn)⟩
theorem Kept.below {O : Nat → Prop} {a b c : World} (h : Kept O a b) (g : Below b.heap.size b c) : Kept O a c :=
  ⟨g.os.trans h.os, g.tape.trans h.tape, g.output.trans h.output, Nat.le_trans h.size g.size, fun i hi hn => (g.block i (Nat.lt_of_lt_of_le hi h.size)).trans (h.block i hi hn)⟩
theorem Kept.toBelow {O : Nat → Prop} {a b : World} {B : Nat} (h : Kept O a b) (hB : B ≤ a.heap.size) (hO : ∀ i, O i → B ≤ i) : Below B a b :=
  ⟨h.os, h.tape, h.output, h.size, fun i hi => h.block i (by omega) (fun h' => by have := hO i h'; omega)⟩
theorem Kept.ownsRow {O : Nat → Prop} {w w' : World} (h : Kept O w w') {base : Nat} {e : TypeId} {size : Nat} {v : Value} {n : Nat} {xs : List Value} (ho : w.ownsRow base e size v n xs) (hb : ∀ k, v.ownBlock = some k → ¬ O k) : w'.ownsRow base e size v n xs := by
  refine ⟨ho.1, ?_⟩
  rcases ho.2 with h2 | ⟨g, cap, cur, rfl, hg, hh, r⟩
  · exact Or.inl h2
  · exact Or.inr ⟨g, cap, cur, rfl, hg, (h.block g (Array.getElem?_eq_some_iff.1 hh).1 (hb g rfl)).trans hh, r⟩
theorem Kept.heap {O : Nat → Prop} {w w' : World} (h : Kept O w w') {k : Nat} {o : Obj} (ho : w.heap[k]? = some o) (hk : ¬ O k) : w'.heap[k]? = some o :=
  (h.block k (Array.getElem?_eq_some_iff.1 ho).1 hk).trans ho

theorem heap_setCell_same {w : World} {b i : Nat} {cs : Array Value} {t : TypeId} {fr : Nat × Nat} (h : w.heap[b]? = some (.cells cs t fr)) (v : Value) : (w.setCell ⟨b, i, none⟩ v).heap[b]? = some (.cells (cs.set! i v) t fr) := by
  simp only [World.setCell, Array.getElem?_modify, h, if_true]
  rfl
theorem ownsRow_set {w : World} {base : Nat} {e : TypeId} {size n : Nat} {v : Value} {xs : List Value} (h : w.ownsRow base e size v n xs) {g : Nat} (hg : v.ownBlock = some g) {i : Nat} (u : Value) : (w.setCell ⟨g, i, none⟩ u).ownsRow base e size v n (xs.set i u) := by
  rcases h.2 with ⟨rfl, _⟩ | ⟨g', cap, cur, rfl, hb, hh, h1, h2, h3, h4⟩
  · cases hg
  · simp [Value.ownBlock] at hg
    subst hg
    have hl := h.1
    refine ⟨by rw [List.length_set]; exact hl, Or.inr ⟨g', cap, cur.set! i u, rfl, hb, ?_, h1, h2, by simpa using h3, ?_⟩⟩
    · have := heap_setCell_same (w := w) (b := g') (i := i) hh u
      simpa using this
    · rw [← h4]
      simp [List.take_set]
/-- The cells of an owned row. -/
theorem row_cell {w : World} {base : Nat} {e : TypeId} {size n g c : Nat} {xs : List Value} (h : w.ownsRow base e size (.slice (some ⟨g, 0, none⟩) n c) n xs) {j : Nat} (hj : j < n * size) : (∃ u, w.cell? ⟨g, j, none⟩ = some u) ∧ w.frozen? ⟨g, j, none⟩ = false := by
  have hl := h.1
  have hj' : j < xs.length := by omega
  have hc := h.cells (g := g) rfl j xs[j] (by simp [hj'])
  rw [Addr.add_lit, Nat.zero_add] at hc
  refine ⟨⟨_, hc⟩, ?_⟩
  rcases h.2 with ⟨e, _⟩ | ⟨g', cap, cur, e, hb, hh, h1, h2, h3, h4⟩
  · cases e
  · cases e
    simp [World.frozen?, hh]
theorem row_some {w : World} {base : Nat} {e : TypeId} {size n c : Nat} {a : Option Addr} {xs : List Value} (h : w.ownsRow base e size (.slice a n c) n xs) (hn : 0 < n) : ∃ g, a = some ⟨g, 0, none⟩ := by
  rcases h.2 with ⟨_, h0⟩ | ⟨g', cap, cur, e, _⟩
  · omega
  · cases e
    exact ⟨g', rfl⟩

theorem row_mono {w : World} {base base' size n : Nat} {e : TypeId} {v : Value} {xs : List Value} (h : w.ownsRow base e size v n xs) (hb : base' ≤ base) : w.ownsRow base' e size v n xs := by
  refine ⟨h.1, ?_⟩
  rcases h.2 with h1 | ⟨g, cap, cur, e, h2, h3⟩
  · exact Or.inl h1
  · exact Or.inr ⟨g, cap, cur, e, Nat.le_trans hb h2, h3⟩
theorem row_below {w w' : World} {base size n : Nat} {e : TypeId} {v : Value} {xs : List Value} (h : w.ownsRow base e size v n xs) (hb : Below w.heap.size w w') : w'.ownsRow base e size v n xs := by
  refine ⟨h.1, ?_⟩
  rcases h.2 with h1 | ⟨g, cap, cur, e, h2, h3, h4⟩
  · exact Or.inl h1
  · exact Or.inr ⟨g, cap, cur, e, h2, (hb.block g (Array.getElem?_eq_some_iff.1 h3).1).trans h3, h4⟩
theorem slice_of_row {w : World} {base n size : Nat} {e : TypeId} {v : Value} {xs : List Value} (h : w.ownsRow base e size v n xs) : ∃ a c, v = .slice a n c := by
  rcases h.2 with ⟨rfl, rfl⟩ | ⟨g, cap, _, rfl, _⟩
  · exact ⟨none, 0, rfl⟩
  · exact ⟨_, cap, rfl⟩

def valU : List UInt32 → Nat
  | [] => 0
  | d :: t => d.toNat + 4294967296 * valU t
def B : Nat → Nat := fun k => 4294967296 ^ k
theorem B_succ (k : Nat) : B (k + 1) = 4294967296 * B k := by unfold B; rw [Nat.pow_succ, Nat.mul_comm]
theorem B_zero : B 0 = 1 := rfl
theorem B_pos (k : Nat) : 0 < B k := Nat.pow_pos (by decide)
theorem valU_append (a b : List UInt32) : valU (a ++ b) = valU a + B a.length * valU b := by
  induction a with
  | nil => simp [valU, B_zero]
  | cons x t ih =>
    rw [List.cons_append, valU, valU, ih, List.length_cons, B_succ, Nat.mul_add, Nat.mul_assoc]
    omega
theorem valU_lt (a : List UInt32) : valU a < B a.length := by
  induction a with
  | nil => exact Nat.one_pos
  | cons x t ih =>
    rw [valU, List.length_cons, B_succ]
    have h1 : x.toNat < 4294967296 := x.toNat_lt
    omega
theorem valU_snoc (a : List UInt32) (x : UInt32) : valU (a ++ [x]) = valU a + B a.length * x.toNat := by
  rw [valU_append]; simp [valU]
def Norm (a : List UInt32) : Prop := ∀ x, a.getLast? = some x → x ≠ 0
theorem Norm.nil : Norm [] := fun x h => by cases h
theorem norm_snoc (a : List UInt32) (x : UInt32) (h : x ≠ 0) : Norm (a ++ [x]) := fun y hy => by simp at hy; rw [← hy]; exact h
theorem norm_ge {a : List UInt32} (h : Norm a) (hl : 0 < a.length) : B (a.length - 1) ≤ valU a := by
  have h0 : a ≠ [] := fun e => by simp [e] at hl
  obtain ⟨t, x, rfl⟩ : ∃ t x, a = t ++ [x] := ⟨a.dropLast, a.getLast h0, (List.dropLast_concat_getLast h0).symm⟩
  have hx : x ≠ 0 := h x (by simp)
  have hx1 : 1 ≤ x.toNat := by
    rcases Nat.eq_zero_or_pos x.toNat with h1 | h1
    · exact absurd (UInt32.toNat_inj.1 (by simpa using h1)) hx
    · exact h1
  rw [valU_snoc]
  have : (t ++ [x]).length - 1 = t.length := by simp
  rw [this]
  have := Nat.mul_le_mul_left (B t.length) hx1
  omega
theorem B_mono {j k : Nat} (h : j ≤ k) : B j ≤ B k := Nat.pow_le_pow_right (by decide) h
theorem cmp_len {a b : List UInt32} (hb : Norm b) (h : a.length < b.length) : valU a < valU b := by
  have h1 := valU_lt a
  have h2 := norm_ge hb (by omega)
  have h3 := B_mono (show a.length ≤ b.length - 1 by omega)
  omega
theorem norm_zero {a : List UInt32} (h : Norm a) : valU a = 0 ↔ a = [] := by
  constructor
  · intro e
    cases a with
    | nil => rfl
    | cons x t =>
      have := norm_ge h (by simp)
      have := B_pos ((x :: t).length - 1)
      omega
  · rintro rfl; rfl
theorem cmp_at {a b : List UInt32} (hl : a.length = b.length) (i : Nat) (hi : i < a.length) (he : a.drop (i + 1) = b.drop (i + 1)) (hlt : a[i].toNat < (b[i]'(hl ▸ hi)).toNat) : valU a < valU b := by
  have ea : a = a.take i ++ (a[i] :: a.drop (i + 1)) := by rw [List.getElem_cons_drop]; exact (List.take_append_drop i a).symm
  have hib : i < b.length := hl ▸ hi
  have eb : b = b.take i ++ (b[i] :: b.drop (i + 1)) := by rw [List.getElem_cons_drop]; exact (List.take_append_drop i b).symm
  rw [ea, eb, valU_append, valU_append, valU, valU, he]
  have l1 : (a.take i).length = i := by simp; omega
  have l2 : (b.take i).length = i := by simp; omega
  have v1 := valU_lt (a.take i)
  rw [l1] at v1
  rw [l1, l2]
  generalize 4294967296 * valU (b.drop (i + 1)) = R
  have : B i * (a[i].toNat + R) + B i ≤ B i * (b[i].toNat + R) := by
    rw [← Nat.mul_succ]
    exact Nat.mul_le_mul_left _ (by omega)
  omega
theorem drop_step {a b : List UInt32} (hl : a.length = b.length) (i : Nat) (hi : i < a.length) (he : a.drop (i + 1) = b.drop (i + 1)) (heq : a[i] = (b[i]'(hl ▸ hi))) : a.drop i = b.drop i := by
  have hib : i < b.length := by omega
  rw [← List.getElem_cons_drop hi, ← List.getElem_cons_drop hib, he, heq]
/-- one word of a sum with what is carried -/
theorem carry_step (es : List UInt32) (c y k S : Nat) (hk : es.length = k) (h : valU es + B k * c = S) :
    valU (es ++ [UInt32.ofNat (c + y)]) + B (k + 1) * ((c + y) / 4294967296) = S + B k * y := by
  rw [valU_snoc, hk, B_succ, UInt32.toNat_ofNat', ← h]
  have e := Nat.mod_add_div (c + y) 4294967296
  have : B k * (c + y) = B k * ((c + y) % 4294967296) + 4294967296 * B k * ((c + y) / 4294967296) := by
    conv => lhs; rw [← e, Nat.mul_add, ← Nat.mul_assoc, Nat.mul_comm (B k) 4294967296]
  rw [Nat.mul_add] at this
  show valU es + B k * ((c + y) % 2 ^ 32) + _ = _
  have e32 : (2 : Nat) ^ 32 = 4294967296 := rfl
  rw [e32]
  omega
/-- one word of a difference -/
theorem borrow_step (es : List UInt32) (b b' d e x k E D : Nat) (hk : es.length = k) (h : valU es + E = D + B k * b) (hx : x < 4294967296) (hd : d + 4294967296 * b' = x + b + e) :
    valU (es ++ [UInt32.ofNat x]) + (E + B k * e) = D + B k * d + B (k + 1) * b' := by
  rw [valU_snoc, hk, B_succ, UInt32.toNat_ofNat']
  show valU es + B k * (x % 4294967296) + _ = _
  rw [Nat.mod_eq_of_lt hx]
  have : B k * (d + 4294967296 * b') = B k * (x + b + e) := by rw [hd]
  rw [Nat.mul_add, Nat.mul_add, Nat.mul_add, ← Nat.mul_assoc, Nat.mul_comm (B k) 4294967296] at this
  omega
/-- words without noughts at their end -/
def trimU : List UInt32 → List UInt32
  | [] => []
  | d :: t => match trimU t with
    | [] => if d = 0 then [] else [d]
    | u => d :: u
theorem valU_trim (a : List UInt32) : valU (trimU a) = valU a := by
  induction a with
  | nil => rfl
  | cons d t ih =>
    unfold trimU
    split
    · rename_i h
      rw [h] at ih
      split
      · rename_i h0; subst h0; simp [valU] at ih ⊢; omega
      · simp [valU] at ih ⊢; omega
    · rw [valU, valU, ih]
theorem norm_trim (a : List UInt32) : Norm (trimU a) := by
  induction a with
  | nil => exact Norm.nil
  | cons d t ih =>
    unfold trimU
    split
    · split
      · exact Norm.nil
      · rename_i h; exact norm_snoc [] d h
    · rename_i h
      intro x hx
      apply ih x
      rw [← hx, List.getLast?_cons]
      cases ht : trimU t with
      | nil => exact absurd ht h
      | cons y z => simp [List.getLast?_cons]
theorem take_zero_valU {a : List UInt32} {k : Nat} (hk : k < a.length) (h0 : a[k] = 0) : valU (a.take (k + 1)) = valU (a.take k) := by
  rw [List.take_succ_eq_append_getElem hk, valU_snoc, h0]
  simp

/-! words -/
def u32s (ds : List UInt32) : List Value := ds.map fun d => .int .u32 d.toNat
theorem u32s_length (ds : List UInt32) : (u32s ds).length = ds.length := by simp [u32s]
theorem u32s_append (a b : List UInt32) : u32s (a ++ b) = u32s a ++ u32s b := by simp [u32s]
theorem u32s_one (ds : List UInt32) : ∀ u ∈ u32s ds, u.oneCell' = true := fun u hu => by
  simp only [u32s, List.mem_map] at hu
  obtain ⟨x, _, rfl⟩ := hu
  rfl
theorem infoU32 : (Tryz.prog.info? 116).map (fun i => (i.zero, i.size, i.bytes)) = some (some (.int .u32 0), 1, 4) := by kernel_rfl
/-- A row of one's own that holds these words. -/
def NRow (w : World) (base : Nat) (v : Value) (ds : List UInt32) : Prop := w.ownsRow base 116 1 v ds.length (u32s ds)
/-- A slice that reads as these words. -/
def NAt (w : World) (v : Value) (ds : List UInt32) : Prop :=
  ∃ a c, v = .slice a ds.length c ∧ (ds.length ≤ c ∧ c ≤ maxLen) ∧ ∀ k (hk : k < ds.length), ∃ b o, a = some ⟨b, o, none⟩ ∧ b < w.heap.size ∧ w.cell? ⟨b, o + k, none⟩ = some (.int .u32 ds[k].toNat)
theorem NAt.one {w : World} {a : Option Addr} {c n : Nat} {ds : List UInt32} (h : NAt w (.slice a n c) ds) (k : Nat) (hk : k < ds.length) : ∃ b o, a = some ⟨b, o, none⟩ ∧ b < w.heap.size ∧ w.cell? ⟨b, o + k, none⟩ = some (.int .u32 ds[k].toNat) := by
  obtain ⟨a', c', e, -, hc⟩ := h
  cases e
  exact hc k hk
theorem NAt.below {w w' : World} {v : Value} {ds : List UInt32} (h : NAt w v ds) (hb : Below w.heap.size w w') : NAt w' v ds := by
  obtain ⟨a, c, e, hlc, hk⟩ := h
  refine ⟨a, c, e, hlc, fun k hlt => ?_⟩
  obtain ⟨b, o, ha, hl, h1⟩ := hk k hlt
  have := hb.size
  exact ⟨b, o, ha, by omega, (hb.cell (p := ⟨b, o + k, none⟩) hl).trans h1⟩
theorem NAt.kept {O : Nat → Prop} {w w' : World} {v : Value} {ds : List UInt32} (h : NAt w v ds) (hk : Kept O w w') (hO : ∀ k, v.ownBlock = some k → ¬ O k) : NAt w' v ds := by
  obtain ⟨a, c, rfl, hlc, hc⟩ := h
  refine ⟨a, c, rfl, hlc, fun k hlt => ?_⟩
  obtain ⟨b, o, rfl, hl, h1⟩ := hc k hlt
  have := hk.size
  refine ⟨b, o, rfl, by omega, ?_⟩
  rw [World.cell?_of_block (a := ⟨b, o + k, none⟩) (hk.block b hl (hO b rfl))]
  exact h1
theorem NRow.at {w : World} {base : Nat} {v : Value} {ds : List UInt32} (h : NRow w base v ds) : NAt w v ds := by
  rcases h.2 with ⟨e, h0⟩ | ⟨g, cap, cur, e, hg, hcur, hc1, hc2, _⟩
  · have : ds = [] := List.eq_nil_of_length_eq_zero h0
    subst this
    exact ⟨none, 0, e, ⟨Nat.zero_le _, Nat.zero_le _⟩, fun _ hk => absurd hk (Nat.not_lt_zero _)⟩
  · refine ⟨some ⟨g, 0, none⟩, cap, e, ⟨hc1, hc2⟩, fun k hk => ⟨g, 0, rfl, (Array.getElem?_eq_some_iff.1 hcur).1, ?_⟩⟩
    have := World.ownsRow.cells h (g := g) (by rw [e]; rfl) k (.int .u32 ds[k].toNat) (by simp [u32s, hk])
    rw [Addr.add_lit] at this
    exact this
theorem NRow.take {w : World} {base n c : Nat} {a : Option Addr} {ds : List UInt32} (h : NRow w base (.slice a n c) ds) (k : Nat) (hk : k ≤ ds.length) : NRow w base (.slice a k c) (ds.take k) := by
  have hl : (ds.take k).length = k := by simp; omega
  refine ⟨by rw [u32s_length, hl]; omega, ?_⟩
  rcases h.2 with ⟨e, h0⟩ | ⟨g, cap, cur, e, hg, hcur, hc1, hc2, hc3, hc4⟩
  · cases e
    left
    have : k = 0 := by omega
    subst this
    exact ⟨rfl, hl⟩
  · cases e
    right
    refine ⟨g, c, cur, by rw [hl], hg, hcur, by omega, hc2, hc3, ?_⟩
    rw [hl]
    have e2 : u32s (ds.take k) = (u32s ds).take k := by simp [u32s, List.map_take]
    rw [e2, ← hc4, List.take_take]
    congr 1
    omega
theorem NRow.kept {O : Nat → Prop} {w w' : World} {base : Nat} {v : Value} {ds : List UInt32} (h : NRow w base v ds) (hk : Kept O w w') (hO : ∀ k, v.ownBlock = some k → ¬ O k) : NRow w' base v ds := hk.ownsRow h hO
theorem NRow.below {w w' : World} {base : Nat} {v : Value} {ds : List UInt32} (h : NRow w base v ds) (hb : Below w.heap.size w w') : NRow w' base v ds := row_below h hb
theorem trim_snoc_zero (l : List UInt32) : trimU (l ++ [0]) = trimU l := by
  induction l with
  | nil => simp [trimU]
  | cons d t ih => rw [List.cons_append, trimU, trimU, ih]
theorem trim_snoc_ne (l : List UInt32) {x : UInt32} (hx : x ≠ 0) : trimU (l ++ [x]) = l ++ [x] := by
  induction l with
  | nil => simp [trimU, hx]
  | cons d t ih =>
    rw [List.cons_append, trimU, ih]
    cases t <;> simp
theorem trim_take (l : List UInt32) : ∃ k, k ≤ l.length ∧ trimU l = l.take k := by
  induction l with
  | nil => exact ⟨0, by simp, rfl⟩
  | cons d t ih =>
    obtain ⟨k, hk, e⟩ := ih
    unfold trimU
    split
    · split
      · exact ⟨0, by simp, rfl⟩
      · exact ⟨1, by simp, by simp⟩
    · exact ⟨k + 1, by simpa using hk, by rw [e]; simp⟩
theorem trim_row {w : World} {base n c : Nat} {a : Option Addr} {ds : List UInt32} (h : NRow w base (.slice a n c) ds) : NRow w base (.slice a (trimU ds).length c) (trimU ds) := by
  obtain ⟨k, hk, e⟩ := trim_take ds
  have hl : (trimU ds).length = k := by rw [e]; simp; omega
  rw [hl, e]
  exact h.take k hk

end Go.Proofs.YtfckdleahljdeaaGreatDoor.Nu

/- Naturals: trimmed, grown. -/
namespace Go.Proofs.YtfckdleahljdeaaGreatDoor.Nu
open Go.RowKit Go.Maps

set_option maxRecDepth 100000 in
set_option maxHeartbeats 1000000 in
theorem trimmed_any (a : Option Addr) (c : Nat) (ds : List UInt32) (w : World) (h : NAt w (.slice a ds.length c) ds) :
    Calls Tryz.prog 107 #[.slice a ds.length c] w fun e w' => e = .returned (.slice a (trimU ds).length c) ∧ w' = w := by
  obtain ⟨a', c', e, hlc, -⟩ := id h
  cases e
  have HN : Hid (NAt w (.slice a ds.length c) ds) := h
  clear h
  unfold maxLen at hlc
  go_enter Tryz.func107, Tryz.ntmps107
  go_wp2
  go_loop [0] (fun s => ∃ k : Nat, k ≤ ds.length ∧ s = .slice a k c ∧ Hid (trimU (ds.take k) = trimU ds)) (fun s => match s with | .slice _ n _ => n | _ => 0)
  case atStart => exact ⟨ds.length, Nat.le_refl _, rfl, by show _ = _; rw [List.take_length]⟩
  case round =>
    obtain ⟨k, hk, rfl, ht⟩ := hrel
    cases k with
    | zero =>
      have ht0 : ([] : List UInt32) = trimU ds := ht.out
      have HTL : Hid ((trimU ds).length = 0) := by show _ = _; rw [← ht0]; rfl
      clear ht0 ht
      go_wp2
      go_ret
      exact ⟨by rw [HTL.out]; rfl, rfl⟩
    | succ k =>
      have hlt : k < ds.length := by omega
      obtain ⟨b, o, rfl, hb, hc⟩ := HN.out.one k hlt
      obtain ⟨x, hx⟩ : ∃ x, x = ds[k] := ⟨_, rfl⟩
      rw [← hx] at hc
      have hxl : x.toNat < 4294967296 := x.toNat_lt
      have HT : Hid (trimU (ds.take k ++ [x]) = trimU ds) := by
        have := ht.out
        rw [List.take_succ_eq_append_getElem hlt, ← hx] at this
        exact this
      clear ht hx
      by_cases hx0 : x.toNat = 0
      · have HT2 : Hid (trimU (ds.take k) = trimU ds) := by
          have h9 := HT.out
          have : x = 0 := UInt32.toNat_inj.1 (by simpa using hx0)
          rw [this, trim_snoc_zero] at h9
          exact h9
        rw [hx0] at hc
        go_wp2
        go_round
        case rel => exact ⟨k, by omega, by simp, HT2⟩
        case measure => simp
      · have HTL : Hid ((trimU ds).length = k + 1) := by
          show _ = _
          have hne : x ≠ 0 := fun e => hx0 (by rw [e]; rfl)
          rw [← HT.out, trim_snoc_ne _ hne]
          simp
          omega
        go_wp2
        go_ret
        exact ⟨by rw [HTL.out]; rfl, rfl⟩

theorem norm_of_ge {es : List UInt32} (h : 0 < es.length → B (es.length - 1) ≤ valU es) : Norm es := fun x hx e => by
  subst e
  have h0 : es ≠ [] := fun e => by rw [e] at hx; cases hx
  obtain ⟨t, y, rfl⟩ : ∃ t y, es = t ++ [y] := ⟨es.dropLast, es.getLast h0, (List.dropLast_concat_getLast h0).symm⟩
  have hy : y = 0 := by simpa using hx
  subst hy
  have h1 := h (by simp)
  have h2 := valU_lt t
  rw [valU_snoc] at h1
  simp at h1
  omega
theorem set_word (es : List UInt32) (d y : UInt32) (t : List UInt32) : (u32s (es ++ d :: t)).set es.length (.int .u32 y.toNat) = u32s (es ++ [y] ++ t) := by
  unfold u32s
  rw [List.map_append, List.set_append_right _ _ (by simp)]
  simp
/-- A natural in memory of one's own. -/
def Big (w : World) (base : Nat) (v : Value) (N : Nat) : Prop := ∃ a c ds, v = .slice a ds.length c ∧ NRow w base v ds ∧ valU ds = N ∧ Norm ds
/-- A natural in memory. -/
def BigAt (w : World) (v : Value) (N : Nat) : Prop := ∃ a c ds, v = .slice a ds.length c ∧ NAt w v ds ∧ valU ds = N ∧ Norm ds
theorem Big.at {w : World} {base N : Nat} {v : Value} (h : Big w base v N) : BigAt w v N := by
  obtain ⟨a, c, ds, e, h1, h2, h3⟩ := h
  exact ⟨a, c, ds, e, h1.at, h2, h3⟩
theorem Big.kept {O : Nat → Prop} {w w' : World} {base N : Nat} {v : Value} (h : Big w base v N) (hk : Kept O w w') (hO : ∀ k, v.ownBlock = some k → ¬ O k) : Big w' base v N := by
  obtain ⟨a, c, ds, e, h1, h2, h3⟩ := h
  exact ⟨a, c, ds, e, h1.kept hk hO, h2, h3⟩
theorem Big.below {w w' : World} {base N : Nat} {v : Value} (h : Big w base v N) (hb : Below w.heap.size w w') : Big w' base v N := by
  obtain ⟨a, c, ds, e, h1, h2, h3⟩ := h
  exact ⟨a, c, ds, e, h1.below hb, h2, h3⟩
theorem BigAt.below {w w' : World} {N : Nat} {v : Value} (h : BigAt w v N) (hb : Below w.heap.size w w') : BigAt w' v N := by
  obtain ⟨a, c, ds, e, h1, h2, h3⟩ := h
  exact ⟨a, c, ds, e, h1.below hb, h2, h3⟩
theorem BigAt.kept {O : Nat → Prop} {w w' : World} {N : Nat} {v : Value} (h : BigAt w v N) (hk : Kept O w w') (hO : ∀ k, v.ownBlock = some k → ¬ O k) : BigAt w' v N := by
  obtain ⟨a, c, ds, e, h1, h2, h3⟩ := h
  exact ⟨a, c, ds, e, h1.kept hk hO, h2, h3⟩
theorem Big.lt {w : World} {base N : Nat} {v : Value} (h : Big w base v N) : ∀ k, v.ownBlock = some k → base ≤ k ∧ k < w.heap.size := by
  obtain ⟨a, c, ds, e, h1, h2, h3⟩ := h
  exact World.ownsRow.lt h1
theorem len_of_val {ds : List UInt32} {m : Nat} (hn : Norm ds) (h : valU ds < B m) : ds.length ≤ m := by
  rcases Nat.lt_or_ge m ds.length with h1 | h1
  · have h2 := norm_ge hn (by omega)
    have h3 := B_mono (show m ≤ ds.length - 1 by omega)
    omega
  · exact h1
/-- A step that turned no block but the natural's own. -/
def Step (w w' : World) (v v' : Value) : Prop := Kept (fun k => v.ownBlock = some k) w w' ∧ ∀ k, v'.ownBlock = some k → v.ownBlock = some k ∨ w.heap.size ≤ k
theorem Step.refl (w : World) (v : Value) : Step w w v v := ⟨Kept.refl _ _, fun _ h => Or.inl h⟩
theorem Step.trans {w w1 w2 : World} {v v1 v2 : Value} (h : Step w w1 v v1) (k : Step w1 w2 v1 v2) : Step w w2 v v2 := by
  refine ⟨h.1.trans k.1 (fun i hi h9 => ?_), fun i hi => ?_⟩
  · rcases h.2 i h9 with h1 | h1
    · exact h1
    · omega
  · have hs := h.1.size
    rcases k.2 i hi with h1 | h1
    · exact h.2 i h1
    · exact Or.inr (by omega)

set_option maxRecDepth 100000 in
set_option maxHeartbeats 2000000 in
theorem grown_any (base : Nat) (v : Value) (N f more : Nat) (w : World) (h : Big w base v N) (hf : f < 4294967296) (hf1 : 1 ≤ f) (hm : more < 4294967296) (hN : N < B 1000) (hb : base ≤ w.heap.size) :
    Calls Tryz.prog 88 #[v, .int .u32 f, .int .u32 more] w fun e w' => ∃ v', e = .returned v' ∧ Big w' base v' (N * f + more) ∧ Step w w' v v' := by
  obtain ⟨a, c, ds, rfl, hrow, hval, hnorm⟩ := h
  have hlen := len_of_val hnorm (hval ▸ hN)
  subst hval
  clear hN
  have HROW : Hid (NRow w base (.slice a ds.length c) ds) := hrow
  have HNORM : Hid (Norm ds) := hnorm
  have hcap : ds.length ≤ c ∧ c ≤ 9223372036854775807 := by
    obtain ⟨a', c', e, hlc, -⟩ := hrow.at
    cases e
    unfold maxLen at hlc
    omega
  clear hrow hnorm
  obtain ⟨i0, hi0, hz0, hz1, hz2⟩ := info_parts infoU32
  go_enter Tryz.func88, Tryz.ntmps88
  go_wp2
  go_loopw [7, 14] (fun cy i wr => ∃ (k : Nat) (es : List UInt32) (x : Nat), k ≤ ds.length ∧ i = .int .i64 k ∧ cy = .int .u64 x ∧ x < 4294967296 ∧ Hid (es.length = k ∧ NRow wr base (.slice a ds.length c) (es ++ ds.drop k) ∧ valU es + B k * x = valU (ds.take k) * f + more ∧ Kept (fun k => (Value.slice a ds.length c).ownBlock = some k) w wr)) (fun _ i _ => ds.length - (intOf i).toNat)
  case atStart => exact ⟨0, [], more, Nat.zero_le _, rfl, rfl, hm, rfl, HROW.out, by simp [valU, B_zero], Kept.refl _ _⟩
  case round =>
    obtain ⟨k, es, x, hk, rfl, rfl, hx, hI⟩ := hrel
    obtain ⟨hel, hrow, heq, hkep⟩ := hI.out
    by_cases hlt : k < ds.length
    · have hll : (es ++ ds.drop k).length = ds.length := by simp; omega
      obtain ⟨d, hd⟩ : ∃ d, d = ds[k] := ⟨_, rfl⟩
      have hrow' : wr.ownsRow base 116 1 (.slice a ds.length c) ds.length (u32s (es ++ ds.drop k)) := by
        have h9 := hrow
        unfold NRow at h9
        rw [hll] at h9
        exact h9
      obtain ⟨g, rfl⟩ := row_some hrow' (by omega)
      have hdrop : ds.drop k = d :: ds.drop (k + 1) := by rw [hd, List.getElem_cons_drop]
      have hc0 : wr.cell? ⟨g, k, none⟩ = some (.int .u32 d.toNat) := by
        have h9 := hrow'.cells (g := g) rfl k (.int .u32 d.toNat) (by
          rw [hdrop]
          simp [u32s, hel])
        rw [Addr.add_lit, Nat.zero_add] at h9
        exact h9
      have hf0 := (row_cell hrow' (j := k) (by omega)).2
      have hdl : d.toNat < 4294967296 := d.toNat_lt
      have hprod : d.toNat * f ≤ 4294967295 * 4294967295 := Nat.mul_le_mul (by omega) (by omega)
      obtain ⟨p, hp⟩ : ∃ p, p = d.toNat * f := ⟨_, rfl⟩
      have hcast : (p : Int) = (d.toNat : Int) * (f : Int) := by rw [hp]; simp
      rw [← hp] at hprod
      have HST := carry_step es x p k _ hel heq
      have HROW2 : Hid (∀ u : Value, u = .int .u32 (UInt32.ofNat (x + p)).toNat → NRow (wr.setCell ⟨g, k, none⟩ u) base (.slice (some ⟨g, 0, none⟩) ds.length c) (es ++ [UInt32.ofNat (x + p)] ++ ds.drop (k + 1))) := fun u hu => by
        have h9 := ownsRow_set hrow' (g := g) rfl (i := k) u
        have hl2 : (es ++ [UInt32.ofNat (x + p)] ++ ds.drop (k + 1)).length = ds.length := by simp; omega
        unfold NRow
        rw [hl2]
        have e2 : (u32s (es ++ ds.drop k)).set k u = u32s (es ++ [UInt32.ofNat (x + p)] ++ ds.drop (k + 1)) := by
          rw [hdrop, hu, ← hel]
          exact set_word es d (UInt32.ofNat (x + p)) (ds.drop (es.length + 1))
        rw [e2] at h9
        exact h9
      have HK2 : Hid (∀ u, Kept (fun k => (Value.slice (some ⟨g, 0, none⟩) ds.length c).ownBlock = some k) w (wr.setCell ⟨g, k, none⟩ u)) := fun u => hkep.setCell (p := ⟨g, k, none⟩) (fun _ => rfl) u
      have HV : Hid (valU (es ++ [UInt32.ofNat (x + p)]) + B (k + 1) * ((x + p) / 4294967296) = valU (ds.take (k + 1)) * f + more) := by
        show _ = _
        rw [HST, List.take_succ_eq_append_getElem hlt, ← hd, valU_snoc, Nat.add_mul, hp]
        have : (ds.take k).length = k := by simp; omega
        rw [this, Nat.mul_assoc]
        omega
      have HL2 : Hid ((es ++ [UInt32.ofNat (x + p)]).length = k + 1) := by show _ = _; simp [hel]
      clear hI hrow hd HST hrow' hkep heq hel hdrop
      go_wp2
      go_roundw
      case rel =>
        simp only [← hcast]
        refine ⟨k + 1, es ++ [UInt32.ofNat (x + p)], (x + p) / 4294967296, by omega, by go_num, ?_, by omega, HL2.out, HROW2.out _ ?_, HV.out, HK2.out _⟩
        · congr 1
        · rw [UInt32.toNat_ofNat']
          congr 1
      case measure => simp [intOf]; omega
    · obtain rfl : k = ds.length := by omega
      rw [List.drop_length, List.append_nil] at hrow
      rw [List.take_length] at heq
      have HR2 : Hid (NRow wr base (.slice a ds.length c) es) := hrow
      have HV : Hid (valU es + B ds.length * x = valU ds * f + more) := heq
      have HK2 : Hid (Kept (fun k => (Value.slice a ds.length c).ownBlock = some k) w wr) := hkep
      have HEL : Hid (es.length = ds.length) := hel
      have hsz := hkep.size
      clear hI hrow heq hkep hel
      by_cases hx0 : x = 0
      · subst hx0
        go_wp2
        go_ret
        refine ⟨_, rfl, ⟨a, c, es, by rw [HEL.out]; rfl, HR2.out, by have := HV.out; simpa using this, norm_of_ge fun h0 => ?_⟩, HK2.out, fun _ h => Or.inl h⟩
        have h1 := HV.out
        have h2 := norm_ge HNORM.out (by have := HEL.out; omega)
        rw [HEL.out]
        have h3 : valU ds * 1 ≤ valU ds * f := Nat.mul_le_mul_left _ hf1
        simp at h1
        omega
      · have hrow2 : wr.ownsRow base 116 1 (.slice a ds.length c) ds.length (u32s es) := by
          have h9 := HR2.out
          unfold NRow at h9
          rw [HEL.out] at h9
          exact h9
        have HR3 : Hid _ := hrow2
        clear hrow2
        go_wp2_with (at_builtin; refine wpList_append_own_at _ rfl _ _ 127 rfl base 116 i0 _ 1 4 Tryz.underlying127 hi0 hz0 hz1 hz2 rfl (by decide) (.slice a ds.length c) ds.length (u32s es) rfl (World.ownsRow.alloc HR3.out _) ⟨wr.heap.size, 0, none⟩ 1 1 [.int .u32 x] rfl rfl (World.news_of_block (cs := #[.int .u32 x]) (t := 116) (fr := (0, 0)) (heap_alloc_new wr _)) (by simp [Value.oneCell']) (by unfold maxLen; omega) (by omega) (by simp; omega) ?_; intro v1 w1 hr1 hg1 hnil1 hloc1)
        go_ret
        obtain ⟨a1, c1, rfl⟩ := slice_of_row hr1
        have hxx : (UInt32.ofNat x).toNat = x := by rw [UInt32.toNat_ofNat']; exact Nat.mod_eq_of_lt hx
        have hl3 : (es ++ [UInt32.ofNat x]).length = ds.length + 1 := by simp [HEL.out]
        refine ⟨_, rfl, ⟨a1, c1, es ++ [UInt32.ofNat x], by rw [hl3]; rfl, ?_, ?_, ?_⟩, ?_, ?_⟩
        · unfold NRow
          rw [hl3, u32s_append]
          have : u32s [UInt32.ofNat x] = [.int .u32 x] := by simp [u32s, hxx]
          rw [this]
          exact hr1
        · rw [valU_snoc, hxx, HEL.out]
          exact HV.out
        · exact norm_snoc _ _ (fun e => hx0 (by rw [← hxx, e]; rfl))
        · exact (HK2.out.alloc _).grown hg1 (fun k _ e => e)
        · intro k hk
          rcases hloc1 with e | e
          · left
            rw [← e]
            exact hk
          · right
            have h9 : some wr.heap.size.succ = some k := by
              rw [← hk]
              have := e.symm
              simpa using this
            have := Option.some.inj h9
            omega

end Go.Proofs.YtfckdleahljdeaaGreatDoor.Nu
