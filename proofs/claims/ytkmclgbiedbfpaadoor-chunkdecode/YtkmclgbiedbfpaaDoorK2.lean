/- Rows of one's own, and bytes. -/
import Derived.Test.YtkmclgbiedbfpaaDoorProg
import Derived.WalkKit
import Derived.WalkSpells
import Derived.WalkLawsBesides
import Derived.Deep.AppendLies
import Derived.Deep.Light
import Derived.Below
import Derived.Deep.QuietTactic
import Derived.BigQuiet
import Derived.Sort.Walk0
import Derived.Laws.MakeOwn
import Derived.Laws.AppendOwnNone
import Derived.Laws.BytesString
import Derived.Laws.BytesArg
import Derived.Deep.RegionLaw
import Derived.Laws.BitsAllLaws
import Derived.Test.YtkmclgbiedbfpaaDoorK1
namespace Go.Proofs.YtkmclgbiedbfpaaDoor
open Go.RowKit Go.Maps

theorem drewN_drewN (w : World) (a b : Nat) : (w.drewN a).drewN b = w.drewN (a + b) := by
  induction b with
  | zero => rfl
  | succ b ih => show ((w.drewN a).drewN b).drew = _; rw [ih]; rfl
theorem below_drewN {B : Nat} {a w : World} (h : Below B a w) : ∀ q, Below B a (w.drewN q)
  | 0 => h
  | q + 1 => (below_drewN h q).drew
theorem wrapI {x : Int} (h1 : -9223372036854775808 ≤ x) (h2 : x ≤ 9223372036854775807) : IntKind.i64.wrap x = x := by
  rw [IntWalk.i64_left]
  exact IntWalk.wrap64_in x ⟨h1, h2⟩

/-- Blocks outside O are as they were. -/
structure Kept (O : Nat → Prop) (w w' : World) : Prop where
  os : w'.os = w.os
  tape : w'.tape = w.tape
  output : w'.output = w.output
  size : w.heap.size ≤ w'.heap.size
  block : ∀ k, k < w.heap.size → ¬ O k → w'.heap[k]? = w.heap[k]?

theorem Kept.refl (O : Nat → Prop) (w : World) : Kept O w w := ⟨rfl, rfl, rfl, Nat.le_refl _, fun _ _ _ => rfl⟩
theorem Kept.trans {O O' : Nat → Prop} {a b c : World} (h : Kept O a b) (k : Kept O' b c) (hO : ∀ i, i < a.heap.size → O' i → O i) : Kept O a c :=
  ⟨k.os.trans h.os, k.tape.trans h.tape, k.output.trans h.output, Nat.le_trans h.size k.size, fun i hi hn => (k.block i (Nat.lt_of_lt_of_le hi h.size) (fun h' => hn (hO i hi h'))).trans (h.block i hi hn)⟩
theorem Kept.mono {O O' : Nat → Prop} {a b : World} (h : Kept O a b) (hO : ∀ i, i < a.heap.size → O i → O' i) : Kept O' a b :=
  ⟨h.os, h.tape, h.output, h.size, fun i hi hn => h.block i hi (fun h' => hn (hO i hi h'))⟩
theorem Kept.drewN {O : Nat → Prop} {a b : World} (h : Kept O a b) (n : Nat) : Kept O a (b.drewN n) := ⟨h.os, h.tape, h.output, h.size, h.block⟩
theorem Kept.alloc {O : Nat → Prop} {a b : World} (h : Kept O a b) (o : Obj) : Kept O a (b.alloc o) :=
  ⟨h.os, h.tape, h.output, Nat.le_trans h.size (by simp), fun i hi hn => (Below.heap_alloc b o i (Nat.lt_of_lt_of_le hi h.size)).trans (h.block i hi hn)⟩
theorem Kept.setCell {O : Nat → Prop} {a b : World} (h : Kept O a b) {p : Addr} (hp : p.block < a.heap.size → O p.block) (u : Value) : Kept O a (b.setCell p u) :=
  ⟨h.os, h.tape, h.output, Nat.le_trans h.size (by simp [World.setCell]), fun i hi hn => (Below.heap_setCell b p u i (fun e => hn (by subst e; exact hp hi))).trans (h.block i hi hn)⟩
theorem Kept.grown {O : Nat → Prop} {a b c : World} {row : Option Nat} (h : Kept O a b) (g : b.grownBy c row) (hr : ∀ k, k < a.heap.size → row = some k → O k) : Kept O a c :=
  ⟨g.os.trans h.os, g.tape.trans h.tape, g.output.trans h.output, Nat.le_trans h.size g.size, fun i hi hn => (g.block i (Nat.lt_of_lt_of_le hi h.size) (fun e => hn (hr i hi e.symm))).trans (h.block i hi hn)⟩
theorem Kept.below {O : Nat → Prop} {a b c : World} (h : Kept O a b) (g : Below b.heap.size b c) : Kept O a c :=
  ⟨g.os.trans h.os, g.tape.trans h.tape, g.output.trans h.output, Nat.le_trans h.size g.size, fun i hi hn => (g.block i (Nat.lt_of_lt_of_le hi h.size)).trans (h.block i hi hn)⟩
theorem Kept.toBelow {O : Nat → Prop} {a b : World} {B : Nat} (h : Kept O a b) (hB : B ≤ a.heap.size) (hO : ∀ i, O i → B ≤ i) : Below B a b :=
  ⟨h.os, h.tape, h.output, h.size, fun i hi => h.block i (by omega) (fun h' => by have := hO i h'; omega)⟩
theorem Kept.ownsRow {O : Nat → Prop} {w w' : World} (h : Kept O w w') {base : Nat} {e : TypeId} {size : Nat} {v : Value} {n : Nat} {xs : List Value} (ho : w.ownsRow base e size v n xs) (hb : ∀ k, v.ownBlock = some k → ¬ O k) : w'.ownsRow base e size v n xs := by
  refine ⟨ho.1, ?_⟩
  rcases ho.2 with h2 | ⟨g, cap, cur, rfl, hg, hh, r⟩
  · exact Or.inl h2
  · exact Or.inr ⟨g, cap, cur, rfl, hg, (h.block g (Array.getElem?_eq_some_iff.1 hh).1 (hb g rfl)).trans hh, r⟩
theorem Kept.heap {O : Nat → Prop} {w w' : World} (h : Kept O w w') {k : Nat} {o : Obj} (ho : w.heap[k]? = some o) (hk : ¬ O k) : w'.heap[k]? = some o :=
  (h.block k (Array.getElem?_eq_some_iff.1 ho).1 hk).trans ho

theorem heap_setCell_same {w : World} {b i : Nat} {cs : Array Value} {t : TypeId} {fr : Nat × Nat} (h : w.heap[b]? = some (.cells cs t fr)) (v : Value) : (w.setCell ⟨b, i, none⟩ v).heap[b]? = some (.cells (cs.set! i v) t fr) := by
  simp only [World.setCell, Array.getElem?_modify, h, if_true]
  rfl
theorem ownsRow_set {w : World} {base : Nat} {e : TypeId} {size n : Nat} {v : Value} {xs : List Value} (h : w.ownsRow base e size v n xs) {g : Nat} (hg : v.ownBlock = some g) {i : Nat} (u : Value) : (w.setCell ⟨g, i, none⟩ u).ownsRow base e size v n (xs.set i u) := by
  rcases h.2 with ⟨rfl, _⟩ | ⟨g', cap, cur, rfl, hb, hh, h1, h2, h3, h4⟩
  · cases hg
  · simp [Value.ownBlock] at hg
    subst hg
    have hl := h.1
    refine ⟨by rw [List.length_set]; exact hl, Or.inr ⟨g', cap, cur.set! i u, rfl, hb, ?_, h1, h2, by simpa using h3, ?_⟩⟩
    · have := heap_setCell_same (w := w) (b := g') (i := i) hh u
      simpa using this
    · rw [← h4]
      simp [List.take_set]
/-- The cells of an owned row. -/
theorem row_cell {w : World} {base : Nat} {e : TypeId} {size n g c : Nat} {xs : List Value} (h : w.ownsRow base e size (.slice (some ⟨g, 0, none⟩) n c) n xs) {j : Nat} (hj : j < n * size) : (∃ u, w.cell? ⟨g, j, none⟩ = some u) ∧ w.frozen? ⟨g, j, none⟩ = false := by
  have hl := h.1
  have hj' : j < xs.length := by omega
  have hc := h.cells (g := g) rfl j xs[j] (by simp [hj'])
  rw [Addr.add_lit, Nat.zero_add] at hc
  refine ⟨⟨_, hc⟩, ?_⟩
  rcases h.2 with ⟨e, _⟩ | ⟨g', cap, cur, e, hb, hh, h1, h2, h3, h4⟩
  · cases e
  · cases e
    simp [World.frozen?, hh]
theorem row_some {w : World} {base : Nat} {e : TypeId} {size n c : Nat} {a : Option Addr} {xs : List Value} (h : w.ownsRow base e size (.slice a n c) n xs) (hn : 0 < n) : ∃ g, a = some ⟨g, 0, none⟩ := by
  rcases h.2 with ⟨_, h0⟩ | ⟨g', cap, cur, e, _⟩
  · omega
  · cases e
    exact ⟨g', rfl⟩

theorem row_mono {w : World} {base base' size n : Nat} {e : TypeId} {v : Value} {xs : List Value} (h : w.ownsRow base e size v n xs) (hb : base' ≤ base) : w.ownsRow base' e size v n xs := by
  refine ⟨h.1, ?_⟩
  rcases h.2 with h1 | ⟨g, cap, cur, e, h2, h3⟩
  · exact Or.inl h1
  · exact Or.inr ⟨g, cap, cur, e, Nat.le_trans hb h2, h3⟩
theorem row_below {w w' : World} {base size n : Nat} {e : TypeId} {v : Value} {xs : List Value} (h : w.ownsRow base e size v n xs) (hb : Below w.heap.size w w') : w'.ownsRow base e size v n xs := by
  refine ⟨h.1, ?_⟩
  rcases h.2 with h1 | ⟨g, cap, cur, e, h2, h3, h4⟩
  · exact Or.inl h1
  · exact Or.inr ⟨g, cap, cur, e, h2, (hb.block g (Array.getElem?_eq_some_iff.1 h3).1).trans h3, h4⟩
theorem slice_of_row {w : World} {base n size : Nat} {e : TypeId} {v : Value} {xs : List Value} (h : w.ownsRow base e size v n xs) : ∃ a c, v = .slice a n c := by
  rcases h.2 with ⟨rfl, rfl⟩ | ⟨g, cap, _, rfl, _⟩
  · exact ⟨none, 0, rfl⟩
  · exact ⟨_, cap, rfl⟩

def byteVals (bs : List UInt8) : List Value := bs.map fun b => .int .u8 b.toNat
theorem byteVals_append (a b : List UInt8) : byteVals (a ++ b) = byteVals a ++ byteVals b := by simp [byteVals]
theorem byteVals_length (a : List UInt8) : (byteVals a).length = a.length := by simp [byteVals]
theorem infoU8 : (Tryd.prog.info? 5).map (fun i => (i.zero, i.size, i.bytes)) = some (some (.int .u8 0), 1, 1) := by kernel_rfl
/-- A slice that reads as these bytes. -/
def BytesAt (w : World) (v : Value) (bs : List UInt8) : Prop :=
  ∃ a c, v = .slice a bs.length c ∧ (bs.length ≤ c ∧ c ≤ maxLen) ∧ (a = none → c = 0 ∧ bs = []) ∧ ∀ k (hk : k < bs.length), ∃ b o, a = some ⟨b, o, none⟩ ∧ b < w.heap.size ∧ w.cell? ⟨b, o + k, none⟩ = some (.int .u8 bs[k].toNat)
theorem BytesAt.nil {w : World} : BytesAt w (.slice none 0 0) [] := ⟨none, 0, rfl, ⟨Nat.zero_le _, Nat.zero_le _⟩, fun _ => ⟨rfl, rfl⟩, fun _k hk => absurd hk (Nat.not_lt_zero _)⟩
theorem BytesAt.below {w w' : World} {v : Value} {bs : List UInt8} (h : BytesAt w v bs) (hb : Below w.heap.size w w') : BytesAt w' v bs := by
  obtain ⟨a, c, e, hlc, hn, hk⟩ := h
  refine ⟨a, c, e, hlc, hn, fun k hlt => ?_⟩
  obtain ⟨b, o, ha, hl, h1⟩ := hk k hlt
  have := hb.size
  exact ⟨b, o, ha, by omega, (hb.cell (p := ⟨b, o + k, none⟩) hl).trans h1⟩
theorem BytesAt.drewN {w : World} {v : Value} {bs : List UInt8} (h : BytesAt w v bs) (q : Nat) : BytesAt (w.drewN q) v bs := h.below (below_drewN (Below.refl _ _) q)
theorem BytesAt.one {w : World} {a : Option Addr} {c n : Nat} {bs : List UInt8} (h : BytesAt w (.slice a n c) bs) (k : Nat) (hk : k < bs.length) : ∃ b o, a = some ⟨b, o, none⟩ ∧ ∀ w', Below w.heap.size w w' → w'.cell? ⟨b, o + k, none⟩ = some (.int .u8 bs[k].toNat) := by
  obtain ⟨a', c', e, -, -, hc⟩ := h
  cases e
  obtain ⟨b, o, rfl, hb, h1⟩ := hc k hk
  exact ⟨b, o, rfl, fun w' hb' => (hb'.cell (p := ⟨b, o + k, none⟩) hb).trans h1⟩
theorem BytesAt.of_row {w : World} {base : Nat} {v : Value} {bs : List UInt8} (h : w.ownsRow base 5 1 v bs.length (byteVals bs)) : BytesAt w v bs := by
  rcases h.2 with ⟨e, h0⟩ | ⟨g, cap, cur, e, hg, hcur, hc1, hc2, _⟩
  · have : bs = [] := List.eq_nil_of_length_eq_zero h0
    subst this
    rw [e]
    exact BytesAt.nil
  · refine ⟨some ⟨g, 0, none⟩, cap, e, ⟨hc1, hc2⟩, (fun e9 => by cases e9), fun k hk => ⟨g, 0, rfl, (Array.getElem?_eq_some_iff.1 hcur).1, ?_⟩⟩
    have := h.cells (g := g) (by rw [e]; rfl) k (.int .u8 bs[k].toNat) (by simp [byteVals, hk])
    rw [Addr.add_lit] at this
    exact this
theorem BytesAt.take {w : World} {a : Option Addr} {n c : Nat} {bs : List UInt8} (h : BytesAt w (.slice a n c) bs) (k : Nat) (hk : k ≤ n) : BytesAt w (.slice a k c) (bs.take k) := by
  obtain ⟨a', c', e, hlc, hn, hc⟩ := h
  cases e
  have hl : (bs.take k).length = k := by simp; omega
  refine ⟨a, c, by rw [hl], ⟨by omega, hlc.2⟩, fun e9 => ⟨(hn e9).1, by rw [(hn e9).2]; simp⟩, fun i hi => ?_⟩
  obtain ⟨b, o, e, h1, h2⟩ := hc i (by omega)
  exact ⟨b, o, e, h1, by rw [h2]; simp⟩
theorem BytesAt.drop {w : World} {b o n c : Nat} {bs : List UInt8} (h : BytesAt w (.slice (some ⟨b, o, none⟩) n c) bs) (k : Nat) (_hk : k ≤ n) : BytesAt w (.slice (some ⟨b, o + k, none⟩) (n - k) (c - k)) (bs.drop k) := by
  obtain ⟨a', c', e, hlc, -, hc⟩ := h
  cases e
  have hl : (bs.drop k).length = bs.length - k := by simp
  refine ⟨_, _, by rw [hl], ⟨by omega, by have := hlc.2; omega⟩, (fun e9 => by cases e9), fun i hi => ?_⟩
  obtain ⟨b', o', e, h1, h2⟩ := hc (k + i) (by omega)
  cases e
  exact ⟨b, o + k, rfl, h1, by rw [show o + k + i = o + (k + i) by omega, h2]; simp⟩
/-- Its end, as a slice expression gives it. -/
theorem BytesAt.rest {w : World} {b o n c : Nat} {bs : List UInt8} (h : BytesAt w (.slice (some ⟨b, o, none⟩) n c) bs) (k : Nat) (hk : k ≤ n) : BytesAt w (.slice (if c = k then some ⟨b, o, none⟩ else some ⟨b, o + k, none⟩) (n - k) (c - k)) (bs.drop k) := by
  by_cases hc : c = k
  · rw [if_pos hc]
    obtain ⟨a', c', e, hlc, -⟩ := id h
    cases e
    have hl : (bs.drop k).length = bs.length - k := by simp
    refine ⟨_, _, by rw [hl], ⟨by omega, by have := hlc.2; omega⟩, (fun e9 => by cases e9), fun i hi => by omega⟩
  · rw [if_neg hc]
    exact h.drop k hk
theorem BytesAt.cells {w : World} {ad : Addr} {n c : Nat} {bs : List UInt8} (h : BytesAt w (.slice (some ad) n c) bs) : ∀ j u, (byteVals bs)[j]? = some u → w.cell? (ad.add j) = some u := fun j u hu => by
  obtain ⟨a', c', e, hlc, -, hc⟩ := h
  cases e
  have hj : j < bs.length := by
    rcases Nat.lt_or_ge j bs.length with h1 | h1
    · exact h1
    · rw [List.getElem?_eq_none (by rw [byteVals_length]; exact h1)] at hu; cases hu
  obtain ⟨b', o', e, _, h1⟩ := hc j hj
  cases e
  rw [Addr.add_lit, h1, ← hu]
  simp [byteVals, hj]
/-- Its text. -/
theorem BytesAt.str {w : World} {v : Value} {bs : List UInt8} (h : BytesAt w v bs) : (convert 24 9 v).run Tryd.prog w = .ok (.string ⟨bs.toArray⟩) w := by
  obtain ⟨a, c, rfl, hlc, hn, hc⟩ := id h
  cases a with
  | none =>
    obtain ⟨rfl, rfl⟩ := hn rfl
    exact run_convert_bytes_nil w 24 5 Tryd.underlying24 Tryd.underlying5 0 0 9 Tryd.underlying9
  | some ad =>
    have e1 : (bs.map fun b => (b.toNat : Int)).map (Value.int .u8) = byteVals bs := by simp [byteVals]
    have hl : (loadCells ad bs.length).run Tryd.prog w = .ok ((bs.map fun b => (b.toNat : Int)).map (Value.int .u8)).toArray w := by
      rw [e1]
      have := run_loadCells_list (P := Tryd.prog) w ad (byteVals bs) h.cells
      rw [byteVals_length] at this
      exact this
    rw [run_convert_bytes_string w 24 9 5 _ bs.length c Tryd.underlying24 Tryd.underlying5 Tryd.underlying9, run_bytesToString w _ bs.length c _ hl]
    have e2 : (bs.map fun b => (b.toNat : Int)).foldl (fun r n => r.push (UInt8.ofNat n.toNat)) ByteArray.empty = ⟨bs.toArray⟩ := by
      have key : ∀ (l : List UInt8) (r : ByteArray), (l.map fun b => (b.toNat : Int)).foldl (fun r n => r.push (UInt8.ofNat n.toNat)) r = ⟨r.data ++ l.toArray⟩ := fun l => by
        induction l with
        | nil => intro r; simp
        | cons x t ih =>
          intro r
          rw [List.map_cons, List.foldl_cons, ih]
          apply WideShapes.bytes_inj
          simp [ByteArray.push]
      rw [key]
      apply WideShapes.bytes_inj
      simp [ByteArray.empty, ByteArray.emptyWithCapacity]
      rfl
    rw [e2]
theorem byteVals_one (bs : List UInt8) : ∀ u ∈ byteVals bs, u.oneCell' = true := fun u hu => by
  simp only [byteVals, List.mem_map] at hu
  obtain ⟨x, _, rfl⟩ := hu
  rfl
/-- append of a slice of bytes, nil or not, onto a slice of the call's own. -/
theorem wpList_append_bytes (w : World) {ops : Array Oper} {rest : List Oper} {o : Oper} {a : Act} {Q : Exit → Act → World → Prop} (hgd : o.guard = none) (s x : Operand)
    (ho : o.op = .call { callee := .builtin .append, args := #[s, x], argTypes := #[24, 24] }) (base : Nat) (v : Value) (n : Nat) (xs : List Value) (hs : a.eval s = v) (hown : w.ownsRow base 5 1 v n xs)
    (xv : Value) (nw : List UInt8) (hx : a.eval x = xv) (hb : BytesAt w xv nw) (hl : n + nw.length ≤ 1000000000) (hbase : base ≤ w.heap.size)
    (h : ∀ v' w', w'.ownsRow base 5 1 v' (n + nw.length) (xs ++ byteVals nw) → w.grownBy w' v.ownBlock → (v'.ownBlock = v.ownBlock ∨ v'.ownBlock = some w.heap.size) → wpList Tryd.prog ops Q rest (a.put o.dst v') w') : wpList Tryd.prog ops Q (o :: rest) a w := by
  obtain ⟨i0, hi0, hz0, hz1, hz2⟩ := info_parts infoU8
  obtain ⟨ax, c, rfl, hlc, hn, hc⟩ := id hb
  cases ax with
  | none =>
    obtain ⟨rfl, rfl⟩ := hn rfl
    exact wpList_append_own_none hgd s x 24 ho base 5 i0 1 Tryd.underlying24 hi0 v n xs hs hown hx (h v w (by simpa [byteVals] using hown) ⟨rfl, rfl, rfl, Nat.le_refl _, fun _ _ _ => rfl⟩ (Or.inl rfl))
  | some ad => exact wpList_append_own_at w hgd s x 24 ho base 5 i0 (.int .u8 0) 1 1 Tryd.underlying24 hi0 hz0 hz1 hz2 rfl (by decide) v n xs hs hown ad nw.length c (byteVals nw) hx (by rw [byteVals_length]; omega) hb.cells (byteVals_one nw) (by unfold maxLen; omega) (by omega) hbase (fun v' w' h1 h2 _ h4 => h v' w' h1 h2 h4)


end Go.Proofs.YtkmclgbiedbfpaaDoor
