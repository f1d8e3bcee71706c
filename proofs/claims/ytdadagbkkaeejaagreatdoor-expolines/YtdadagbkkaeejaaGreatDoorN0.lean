/- Naturals: words of 32 bits, and rows of one's own that hold them. -/
import Derived.Test.YtdadagbkkaeejaaGreatDoorProg
import Derived.WalkKit
import Derived.WalkSpells
import Derived.WalkLawsBesides
import Derived.Deep.AppendLies
import Derived.Deep.Light
import Derived.Below
import Derived.Deep.QuietTactic
import Derived.BigQuiet
import Derived.Sort.Walk0
import Derived.Laws.MakeOwn
import Derived.Laws.AppendOwnNone
namespace Go.Proofs.YtdadagbkkaeejaaGreatDoor.Nu
open Go.RowKit

theorem drewN_drewN (w : World) (a b : Nat) : (w.drewN a).drewN b = w.drewN (a + b) := by
  induction b with
  | zero => rfl
  | succ b ih => show ((w.drewN a).drewN b).drew = _; rw [ih]; rfl
theorem below_drewN {B : Nat} {a w : World} (h : Below B a w) : ∀ q, Below B a (w.drewN q)
  | 0 => h
  | q + 1 => (below_drewN h q).drew
theorem wrapI {x : Int} (h1 : -9223372036854775808 ≤ x) (h2 : x ≤ 9223372036854775807) : IntKind.i64.wrap x = x := by
  rw [IntWalk.i64_left]
  exact IntWalk.wrap64_in x ⟨h1, h2⟩

/-- Blocks outside O are as they were. -/
structure Kept (O : Nat → Prop) (w w' : World) : Prop where
  os : w'.os = w.os
  tape : w'.tape = w.tape
  output : w'.output = w.output
  size : w.heap.size ≤ w'.heap.size
  block : ∀ k, k < w.heap.size → ¬ O k → w'.heap[k]? = w.heap[k]?

theorem Kept.refl (O : Nat → Prop) (w : World) : Kept O w w := ⟨rfl, rfl, rfl, Nat.le_refl _, fun _ _ _ => rfl⟩
theorem Kept.trans {O O' : Nat → Prop} {a b c : World} (h : Kept O a b) (k : Kept O' b c) (hO : ∀ i, i < a.heap.size → O' i → O i) : Kept O a c :=
  ⟨k.os.trans h.os, k.tape.trans h.tape, k.output.trans h.output, Nat.le_trans h.size k.size, fun i hi hn => (k.block i (Nat.lt_of_lt_of_le hi h.size) (fun h' => hn (hO i hi h'))).trans (h.block i hi hn)⟩
theorem Kept.mono {O O' : Nat → Prop} {a b : World} (h : Kept O a b) (hO : ∀ i, i < a.heap.size → O i → O' i) : Kept O' a b :=
  ⟨h.os, h.tape, h.output, h.size, fun i hi hn => h.block i hi (fun h' => hn (hO i hi h'))⟩
theorem Kept.drewN {O : Nat → Prop} {a b : World} (h : Kept O a b) (n : Nat) : Kept O a (b.drewN n) := ⟨h.os, h.tape, h.output, h.size, h.block⟩
theorem Kept.alloc {O : Nat → Prop} {a b : World} (h : Kept O a b) (o : Obj) : Kept O a (b.alloc o) :=
  ⟨h.os, h.tape, h.output, Nat.le_trans h.size (by simp), fun i hi hn => (Below.heap_alloc b o i (Nat.lt_of_lt_of_le hi h.size)).trans (h.block i hi hn)⟩
theorem Kept.setCell {O : Nat → Prop} {a b : World} (h : Kept O a b) {p : Addr} (hp : p.block < a.heap.size → O p.block) (u : Value) : Kept O a (b.setCell p u) :=
  ⟨h.os, h.tape, h.output, Nat.le_trans h.size (by simp [World.setCell]), fun i hi hn => (Below.heap_setCell b p u i (fun e => hn (by subst e; exact hp hi))).trans (h.block i hi hn)⟩
theorem Kept.grown {O : Nat → Prop} {a b c : World} {row : Option Nat} (h : Kept O a b) (g : b.grownBy c row) (hr : ∀ k, k < a.heap.size → row = some k → O k) : Kept O a c :=
  ⟨g.os.trans h.os, g.tape.trans h.tape, g.output.trans h.output, Nat.le_trans h.size g.size, fun i hi hn => (g.block i (Nat.lt_of_lt_of_le hi h.size) (fun e => hn (hr i hi e.symm))).trans (h.block i hi hn)⟩
theorem Kept.below {O : Nat → Prop} {a b c : World} (h : Kept O a b) (g : Below b.heap.size b c) : Kept O a c :=
  ⟨g.os.trans h.os, g.tape.trans h.tape, g.output.trans h.output, Nat.le_trans h.size g.size, fun i hi hn => (g.block i (Nat.lt_of_lt_of_le hi h.size)).trans (h.block i hi hn)⟩
theorem Kept.toBelow {O : Nat → Prop} {a b : World} {B : Nat} (h : Kept O a b) (hB : B ≤ a.heap.size) (hO : ∀ i, O i → B ≤ i) : Below B a b :=
  ⟨h.os, h.tape, h.output, h.size, fun i hi => h.block i (by omega) (fun h' => by have := hO i h'; omega)⟩
theorem Kept.ownsRow {O : Nat → Prop} {w w' : World} (h : Kept O w w') {base : Nat} {e : TypeId} {size : Nat} {v : Value} {n : Nat} {xs : List Value} (ho : w.ownsRow base e size v n xs) (hb : ∀ k, v.ownBlock = some k → ¬ O k) : w'.ownsRow base e size v n xs := by
  refine ⟨ho.1, ?_⟩
  rcases ho.2 with h2 | ⟨g, cap, cur, rfl, hg, hh, r⟩
  · exact Or.inl h2
  · exact Or.inr ⟨g, cap, cur, rfl, hg, (h.block g (Array.getElem?_eq_some_iff.1 hh).1 (hb g rfl)).trans hh, r⟩
theorem Kept.heap {O : Nat → Prop} {w w' : World} (h : Kept O w w') {k : Nat} {o : Obj} (ho : w.heap[k]? = some o) (hk : ¬ O k) : w'.heap[k]? = some o :=
  (h.block k (Array.getElem?_eq_some_iff.1 ho).1 hk).trans ho

theorem heap_setCell_same {w : World} {b i : Nat} {cs : Array Value} {t : TypeId} {fr : Nat × Nat} (h : w.heap[b]? = some (.cells cs t fr)) (v : Value) : (w.setCell ⟨b, i, none⟩ v).heap[b]? = some (.cells (cs.set! i v) t fr) := by
  simp only [World.setCell, Array.getElem?_modify, h, if_true]
  rfl
theorem ownsRow_set {w : World} {base : Nat} {e : TypeId} {size n : Nat} {v : Value} {xs : List Value} (h : w.ownsRow base e size v n xs) {g : Nat} (hg : v.ownBlock = some g) {i : Nat} (u : Value) : (w.setCell ⟨g, i, none⟩ u).ownsRow base e size v n (xs.set i u) := by
  rcases h.2 with ⟨rfl, _⟩ | ⟨g', cap, cur, rfl, hb, hh, h1, h2, h3, h4⟩
  · cases hg
  · simp [Value.ownBlock] at hg
    subst hg
    have hl := h.1
    refine ⟨by rw [List.length_set]; exact hl, Or.inr ⟨g', cap, cur.set! i u, rfl, hb, ?_, h1, h2, by simpa using h3, ?_⟩⟩
    · have := heap_setCell_same (w := w) (b := g') (i := i) hh u
      simpa using this
    · rw [← h4]
      simp [List.take_set]
/-- The cells of an owned row. -/
theorem row_cell {w : World} {base : Nat} {e : TypeId} {size n g c : Nat} {xs : List Value} (h : w.ownsRow base e size (.slice (some ⟨g, 0, none⟩) n c) n xs) {j : Nat} (hj : j < n * size) : (∃ u, w.cell? ⟨g, j, none⟩ = some u) ∧ w.frozen? ⟨g, j, none⟩ = false := by
  have hl := h.1
  have hj' : j < xs.length := by omega
  have hc := h.cells (g := g) rfl j xs[j] (by simp [hj'])
  rw [Addr.add_lit, Nat.zero_add] at hc
  refine ⟨⟨_, hc⟩, ?_⟩
  rcases h.2 with ⟨e, _⟩ | ⟨g', cap, cur, e, hb, hh, h1, h2, h3, h4⟩
  · cases e
  · cases e
    simp [World.frozen?, hh]
theorem row_some {w : World} {base : Nat} {e : TypeId} {size n c : Nat} {a : Option Addr} {xs : List Value} (h : w.ownsRow base e size (.slice a n c) n xs) (hn : 0 < n) : ∃ g, a = some ⟨g, 0, none⟩ := by
  rcases h.2 with ⟨_, h0⟩ | ⟨g', cap, cur, e, _⟩
  · omega
  · cases e
    exact ⟨g', rfl⟩

theorem row_mono {w : World} {base base' size n : Nat} {e : TypeId} {v : Value} {xs : List Value} (h : w.ownsRow base e size v n xs) (hb : base' ≤ base) : w.ownsRow base' e size v n xs := by
  refine ⟨h.1, ?_⟩
  rcases h.2 with h1 | ⟨g, cap, cur, e, h2, h3⟩
  · exact Or.inl h1
  · exact Or.inr ⟨g, cap, cur, e, Nat.le_trans hb h2, h3⟩
theorem row_below {w w' : World} {base size n : Nat} {e : TypeId} {v : Value} {xs : List Value} (h : w.ownsRow base e size v n xs) (hb : Below w.heap.size w w') : w'.ownsRow base e size v n xs := by
  refine ⟨h.1, ?_⟩
  rcases h.2 with h1 | ⟨g, cap, cur, e, h2, h3, h4⟩
  · exact Or.inl h1
  · exact Or.inr ⟨g, cap, cur, e, h2, (hb.block g (Array.getElem?_eq_some_iff.1 h3).1).trans h3, h4⟩
theorem slice_of_row {w : World} {base n size : Nat} {e : TypeId} {v : Value} {xs : List Value} (h : w.ownsRow base e size v n xs) : ∃ a c, v = .slice a n c := by
  rcases h.2 with ⟨rfl, rfl⟩ | ⟨g, cap, _, rfl, _⟩
  · exact ⟨none, 0, rfl⟩
  · exact ⟨_, cap, rfl⟩

def valU : List UInt32 → Nat
  | [] => 0
  | d :: t => d.toNat + 4294967296 * valU t
def B : Nat → Nat := fun k => 4294967296 ^ k
theorem B_succ (k : Nat) : B (k + 1) = 4294967296 * B k := by unfold B; rw [Nat.pow_succ, Nat.mul_comm]
theorem B_zero : B 0 = 1 := rfl
theorem B_pos (k : Nat) : 0 < B k := Nat.pow_pos (by decide)
theorem valU_append (a b : List UInt32) : valU (a ++ b) = valU a + B a.length * valU b := by
  induction a with
  | nil => simp [valU, B_zero]
  | cons x t ih =>
    rw [List.cons_append, valU, valU, ih, List.length_cons, B_succ, Nat.mul_add, Nat.mul_assoc]
    omega
theorem valU_lt (a : List UInt32) : valU a < B a.length := by
  induction a with
  | nil => exact Nat.one_pos
  | cons x t ih =>
    rw [valU, List.length_cons, B_succ]
    have h1 : x.toNat < 4294967296 := x.toNat_lt
    omega
theorem valU_snoc (a : List UInt32) (x : UInt32) : valU (a ++ [x]) = valU a + B a.length * x.toNat := by
  rw [valU_append]; simp [valU]
def Norm (a : List UInt32) : Prop := ∀ x, a.getLast? = some x → x ≠ 0
theorem Norm.nil : Norm [] := fun x h => by cases h
theorem norm_snoc (a : List UInt32) (x : UInt32) (h : x ≠ 0) : Norm (a ++ [x]) := fun y hy => by simp at hy; rw [← hy]; exact h
theorem norm_ge {a : List UInt32} (h : Norm a) (hl : 0 < a.length) : B (a.length - 1) ≤ valU a := by
  have h0 : a ≠ [] := fun e => by simp [e] at hl
  obtain ⟨t, x, rfl⟩ : ∃ t x, a = t ++ [x] := ⟨a.dropLast, a.getLast h0, (List.dropLast_concat_getLast h0).symm⟩
  have hx : x ≠ 0 := h x (by simp)
  have hx1 : 1 ≤ x.toNat := by
    rcases Nat.eq_zero_or_pos x.toNat with h1 | h1
    · exact absurd (UInt32.toNat_inj.1 (by simpa using h1)) hx
    · exact h1
  rw [valU_snoc]
  have : (t ++ [x]).length - 1 = t.length := by simp
  rw [this]
  have := Nat.mul_le_mul_left (B t.length) hx1
  omega
theorem B_mono {j k : Nat} (h : j ≤ k) : B j ≤ B k := Nat.pow_le_pow_right (by decide) h
theorem cmp_len {a b : List UInt32} (hb : Norm b) (h : a.length < b.length) : valU a < valU b := by
  have h1 := valU_lt a
  have h2 := norm_ge hb (by omega)
  have h3 := B_mono (show a.length ≤ b.length - 1 by omega)
  omega
theorem norm_zero {a : List UInt32} (h : Norm a) : valU a = 0 ↔ a = [] := by
  constructor
  · intro e
    cases a with
    | nil => rfl
    | cons x t =>
      have := norm_ge h (by simp)
      have := B_pos ((x :: t).length - 1)
      omega
  · rintro rfl; rfl
theorem cmp_at {a b : List UInt32} (hl : a.length = b.length) (i : Nat) (hi : i < a.length) (he : a.drop (i + 1) = b.drop (i + 1)) (hlt : a[i].toNat < (b[i]'(hl ▸ hi)).toNat) : valU a < valU b := by
  have ea : a = a.take i ++ (a[i] :: a.drop (i + 1)) := by rw [List.getElem_cons_drop]; exact (List.take_append_drop i a).symm
  have hib : i < b.length := hl ▸ hi
  have eb : b = b.take i ++ (b[i] :: b.drop (i + 1)) := by rw [List.getElem_cons_drop]; exact (List.take_append_drop i b).symm
  rw [ea, eb, valU_append, valU_append, valU, valU, he]
  have l1 : (a.take i).length = i := by simp; omega
  have l2 : (b.take i).length = i := by simp; omega
  have v1 := valU_lt (a.take i)
  rw [l1] at v1
  rw [l1, l2]
  generalize 4294967296 * valU (b.drop (i + 1)) = R
  have : B i * (a[i].toNat + R) + B i ≤ B i * (b[i].toNat + R) := by
    rw [← Nat.mul_succ]
    exact Nat.mul_le_mul_left _ (by omega)
  omega
theorem drop_step {a b : List UInt32} (hl : a.length = b.length) (i : Nat) (hi : i < a.length) (he : a.drop (i + 1) = b.drop (i + 1)) (heq : a[i] = (b[i]'(hl ▸ hi))) : a.drop i = b.drop i := by
  have hib : i < b.length := by omega
  rw [← List.getElem_cons_drop hi, ← List.getElem_cons_drop hib, he, heq]
/-- one word of a sum with what is carried -/
theorem carry_step (es : List UInt32) (c y k S : Nat) (hk : es.length = k) (h : valU es + B k * c = S) :
    valU (es ++ [UInt32.ofNat (c + y)]) + B (k + 1) * ((c + y) / 4294967296) = S + B k * y := by
  rw [valU_snoc, hk, B_succ, UInt32.toNat_ofNat', ← h]
  have e := Nat.mod_add_div (c + y) 4294967296
  have : B k * (c + y) = B k * ((c + y) % 4294967296) + 4294967296 * B k * ((c + y) / 4294967296) := by
    conv => lhs; rw [← e, Nat.mul_add, ← Nat.mul_assoc, Nat.mul_comm (B k) 4294967296]
  rw [Nat.mul_add] at this
  show valU es + B k * ((c + y) % 2 ^ 32) + _ = _
  have e32 : (2 : Nat) ^ 32 = 4294967296 := rfl
  rw [e32]
  omega
/-- one word of a difference -/
theorem borrow_step (es : List UInt32) (b b' d e x k E D : Nat) (hk : es.length = k) (h : valU es + E = D + B k * b) (hx : x < 4294967296) (hd : d + 4294967296 * b' = x + b + e) :
    valU (es ++ [UInt32.ofNat x]) + (E + B k * e) = D + B k * d + B (k + 1) * b' := by
  rw [valU_snoc, hk, B_succ, UInt32.toNat_ofNat']
  show valU es + B k * (x % 4294967296) + _ = _
  rw [Nat.mod_eq_of_lt hx]
  have : B k * (d + 4294967296 * b') = B k * (x + b + e) := by rw [hd]
  rw [Nat.mul_add, Nat.mul_add, Nat.mul_add, ← Nat.mul_assoc, Nat.mul_comm (B k) 4294967296] at this
  omega
/-- words without noughts at their end -/
def trimU : List UInt32 → List UInt32
  | [] => []
  | d :: t => match trimU t with
    | [] => if d = 0 then [] else [d]
    | u => d :: u
theorem valU_trim (a : List UInt32) : valU (trimU a) = valU a := by
  induction a with
  | nil => rfl
  | cons d t ih =>
    unfold trimU
    split
    · rename_i h
      rw [h] at ih
      split
      · rename_i h0; subst h0; simp [valU] at ih ⊢; omega
      · simp [valU] at ih ⊢; omega
    · rw [valU, valU, ih]
theorem norm_trim (a : List UInt32) : Norm (trimU a) := by
  induction a with
  | nil => exact Norm.nil
  | cons d t ih =>
    unfold trimU
    split
    · split
      · exact Norm.nil
      · rename_i h; exact norm_snoc [] d h
    · rename_i h
      intro x hx
      apply ih x
      rw [← hx, List.getLast?_cons]
      cases ht : trimU t with
      | nil => exact absurd ht h
      | cons y z => simp [List.getLast?_cons]
theorem take_zero_valU {a : List UInt32} {k : Nat} (hk : k < a.length) (h0 : a[k] = 0) : valU (a.take (k + 1)) = valU (a.take k) := by
  rw [List.take_succ_eq_append_getElem hk, valU_snoc, h0]
  simp

/-! words -/
def u32s (ds : List UInt32) : List Value := ds.map fun d => .int .u32 d.toNat
theorem u32s_length (ds : List UInt32) : (u32s ds).length = ds.length := by simp [u32s]
theorem u32s_append (a b : List UInt32) : u32s (a ++ b) = u32s a ++ u32s b := by simp [u32s]
theorem u32s_one (ds : List UInt32) : ∀ u ∈ u32s ds, u.oneCell' = true := fun u hu => by
  simp only [u32s, List.mem_map] at hu
  obtain ⟨x, _, rfl⟩ := hu
  rfl
theorem infoU32 : (Tryz.prog.info? 83).map (fun i => (i.zero, i.size, i.bytes)) = some (some (.int .u32 0), 1, 4) := by kernel_rfl
/-- A row of one's own that holds these words. -/
def NRow (w : World) (base : Nat) (v : Value) (ds : List UInt32) : Prop := w.ownsRow base 83 1 v ds.length (u32s ds)
/-- A slice that reads as these words. -/
def NAt (w : World) (v : Value) (ds : List UInt32) : Prop :=
  ∃ a c, v = .slice a ds.length c ∧ (ds.length ≤ c ∧ c ≤ maxLen) ∧ ∀ k (hk : k < ds.length), ∃ b o, a = some ⟨b, o, none⟩ ∧ b < w.heap.size ∧ w.cell? ⟨b, o + k, none⟩ = some (.int .u32 ds[k].toNat)
theorem NAt.one {w : World} {a : Option Addr} {c n : Nat} {ds : List UInt32} (h : NAt w (.slice a n c) ds) (k : Nat) (hk : k < ds.length) : ∃ b o, a = some ⟨b, o, none⟩ ∧ b < w.heap.size ∧ w.cell? ⟨b, o + k, none⟩ = some (.int .u32 ds[k].toNat) := by
  obtain ⟨a', c', e, -, hc⟩ := h
  cases e
  exact hc k hk
theorem NAt.below {w w' : World} {v : Value} {ds : List UInt32} (h : NAt w v ds) (hb : Below w.heap.size w w') : NAt w' v ds := by
  obtain ⟨a, c, e, hlc, hk⟩ := h
  refine ⟨a, c, e, hlc, fun k hlt => ?_⟩
  obtain ⟨b, o, ha, hl, h1⟩ := hk k hlt
  have := hb.size
  exact ⟨b, o, ha, by omega, (hb.cell (p := ⟨b, o + k, none⟩) hl).trans h1⟩
theorem NAt.kept {O : Nat → Prop} {w w' : World} {v : Value} {ds : List UInt32} (h : NAt w v ds) (hk : Kept O w w') (hO : ∀ k, v.ownBlock = some k → ¬ O k) : NAt w' v ds := by
  obtain ⟨a, c, rfl, hlc, hc⟩ := h
  refine ⟨a, c, rfl, hlc, fun k hlt => ?_⟩
  obtain ⟨b, o, rfl, hl, h1⟩ := hc k hlt
  have := hk.size
  refine ⟨b, o, rfl, by omega, ?_⟩
  rw [World.cell?_of_block (a := ⟨b, o + k, none⟩) (hk.block b hl (hO b rfl))]
  exact h1
theorem NRow.at {w : World} {base : Nat} {v : Value} {ds : List UInt32} (h : NRow w base v ds) : NAt w v ds := by
  rcases h.2 with ⟨e, h0⟩ | ⟨g, cap, cur, e, hg, hcur, hc1, hc2, _⟩
  · have : ds = [] := List.eq_nil_of_length_eq_zero h0
    subst this
    exact ⟨none, 0, e, ⟨Nat.zero_le _, Nat.zero_le _⟩, fun _ hk => absurd hk (Nat.not_lt_zero _)⟩
  · refine ⟨some ⟨g, 0, none⟩, cap, e, ⟨hc1, hc2⟩, fun k hk => ⟨g, 0, rfl, (Array.getElem?_eq_some_iff.1 hcur).1, ?_⟩⟩
    have := World.ownsRow.cells h (g := g) (by rw [e]; rfl) k (.int .u32 ds[k].toNat) (by simp [u32s, hk])
    rw [Addr.add_lit] at this
    exact this
theorem NRow.take {w : World} {base n c : Nat} {a : Option Addr} {ds : List UInt32} (h : NRow w base (.slice a n c) ds) (k : Nat) (hk : k ≤ ds.length) : NRow w base (.slice a k c) (ds.take k) := by
  have hl : (ds.take k).length = k := by simp; omega
  refine ⟨by rw [u32s_length, hl]; omega, ?_⟩
  rcases h.2 with ⟨e, h0⟩ | ⟨g, cap, cur, e, hg, hcur, hc1, hc2, hc3, hc4⟩
  · cases e
    left
    have : k = 0 := by omega
    subst this
    exact ⟨rfl, hl⟩
  · cases e
    right
    refine ⟨g, c, cur, by rw [hl], hg, hcur, by omega, hc2, hc3, ?_⟩
    rw [hl]
    have e2 : u32s (ds.take k) = (u32s ds).take k := by simp [u32s, List.map_take]
    rw [e2, ← hc4, List.take_take]
    congr 1
    omega
theorem NRow.kept {O : Nat → Prop} {w w' : World} {base : Nat} {v : Value} {ds : List UInt32} (h : NRow w base v ds) (hk : Kept O w w') (hO : ∀ k, v.ownBlock = some k → ¬ O k) : NRow w' base v ds := hk.ownsRow h hO
theorem NRow.below {w w' : World} {base : Nat} {v : Value} {ds : List UInt32} (h : NRow w base v ds) (hb : Below w.heap.size w w') : NRow w' base v ds := row_below h hb
theorem trim_snoc_zero (l : List UInt32) : trimU (l ++ [0]) = trimU l := by
  induction l with
  | nil => simp [trimU]
  | cons d t ih => rw [List.cons_append, trimU, trimU, ih]
theorem trim_snoc_ne (l : List UInt32) {x : UInt32} (hx : x ≠ 0) : trimU (l ++ [x]) = l ++ [x] := by
  induction l with
  | nil => simp [trimU, hx]
  | cons d t ih =>
    rw [List.cons_append, trimU, ih]
    cases t <;> simp
theorem trim_take (l : List UInt32) : ∃ k, k ≤ l.length ∧ trimU l = l.take k := by
  induction l with
  | nil => exact ⟨0, by simp, rfl⟩
  | cons d t ih =>
    obtain ⟨k, hk, e⟩ := ih
    unfold trimU
    split
    · split
      · exact ⟨0, by simp, rfl⟩
      · exact ⟨1, by simp, by simp⟩
    · exact ⟨k + 1, by simpa using hk, by rw [e]; simp⟩
theorem trim_row {w : World} {base n c : Nat} {a : Option Addr} {ds : List UInt32} (h : NRow w base (.slice a n c) ds) : NRow w base (.slice a (trimU ds).length c) (trimU ds) := by
  obtain ⟨k, hk, e⟩ := trim_take ds
  have hl : (trimU ds).length = k := by rw [e]; simp; omega
  rw [hl, e]
  exact h.take k hk

end Go.Proofs.YtdadagbkkaeejaaGreatDoor.Nu
