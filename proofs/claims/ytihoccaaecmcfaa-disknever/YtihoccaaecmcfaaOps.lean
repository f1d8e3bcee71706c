/- The operations that come in. -/
import Derived.Test.YtihoccaaecmcfaaKeeps
import Derived.Deep.Slices
import Derived.Deep.Strs
namespace Go.Proofs.Ytihoccaaecmcfaa
open Go.ChangeShapes Go.WideShapes Go.ChangeAt Go.RowKit
open Go.Deep (open_slice choose_lt)

structure OpV where
  act : Int
  n : Int
  k : Int
  name : ByteArray
  dest : ByteArray
  bv : Value
  bs : List UInt8
  cv : Value
  cs : List Int

instance : Inhabited OpV := ⟨⟨0, 0, 0, ByteArray.empty, ByteArray.empty, .slice none 0 0, [], .slice none 0 0, []⟩⟩

/-- One of them, in memory. -/
structure OpAt (w : World) (b o : Nat) (x : OpV) : Prop where
  c0 : w.cell? ⟨b, o, none⟩ = some (.int .i64 x.act)
  c1 : w.cell? ⟨b, o + 1, none⟩ = some (.int .i64 x.n)
  c2 : w.cell? ⟨b, o + 2, none⟩ = some (.int .i64 x.k)
  c3 : w.cell? ⟨b, o + 3, none⟩ = some (.string x.name)
  c4 : w.cell? ⟨b, o + 4, none⟩ = some (.string x.dest)
  c5 : w.cell? ⟨b, o + 5, none⟩ = some x.bv
  c6 : w.cell? ⟨b, o + 6, none⟩ = some x.cv
  wa : (Lit.int .i64 x.act).wf = true
  wn : (Lit.int .i64 x.n).wf = true
  wk : (Lit.int .i64 x.k).wf = true
  wname : x.name.size ≤ maxLen
  wto : x.dest.size ≤ maxLen
  bytes : BytesAt w x.bv x.bs
  low : ∀ k, x.bv.ownBlock = some k → x.bs ≠ [] → k < w.heap.size
  cuts : CutsAt w x.cv x.cs
  lowc : ∀ k o l c, x.cv = .slice (some ⟨k, o, none⟩) l c → x.cs ≠ [] → k < w.heap.size

theorem cells34 : Try.prog.cellsOf 34 = 7 := by kernel_rfl
theorem cells3 : Try.prog.cellsOf 3 = 1 := by kernel_rfl
theorem cells9' : Try.prog.cellsOf 9 = 1 := by kernel_rfl
theorem cells31 : Try.prog.cellsOf 31 = 1 := by kernel_rfl
theorem cells32 : Try.prog.cellsOf 32 = 1 := by kernel_rfl

section
variable {H : Type} {enc : TypeId × Value → H} {w : World}

theorem bytes_came {n : Nat} {c : Value} {x : DataW H × List MemPlace} (h : DataW.trod enc Try.prog w 0 (fun _ => true) true n 31 [c] = some x) : ∃ bs : List UInt8, BytesAt w c bs ∧ (∀ k, c.ownBlock = some k → bs ≠ [] → k < w.heap.size) := by
  rcases open_ints Try.underlying31 Try.underlying5 (by kernel_rfl) h with ⟨hcs, _⟩ | ⟨x, l, cap, zs, hcs, _, hl, hm, hz, _, hcell, hwz⟩
  · simp at hcs
    subst hcs
    exact ⟨[], Or.inl ⟨rfl, rfl⟩, fun k hk => by cases hk⟩
  · simp at hcs
    subst hcs
    obtain ⟨bs, _, h1, h2⟩ := CameIn.bytes (w := w) (a := some x) (len := l) (cap := cap) (zs := zs) (.inr ⟨_, rfl, hl, hm, by simpa using hz, hcell, hwz⟩)
    exact ⟨bs, h1, h2⟩

theorem cuts_came {n : Nat} {c : Value} {x : DataW H × List MemPlace} (h : DataW.trod enc Try.prog w 0 (fun _ => true) true n 32 [c] = some x) : ∃ cs : List Int, CutsAt w c cs ∧ (∀ k o l cc, c = .slice (some ⟨k, o, none⟩) l cc → cs ≠ [] → k < w.heap.size) := by
  rcases open_ints Try.underlying32 Try.underlying3 (by kernel_rfl) h with ⟨hcs, _⟩ | ⟨x, l, cap, zs, hcs, _, hl, hm, hz, _, hcell, hwz⟩
  · simp at hcs
    subst hcs
    exact ⟨[], ⟨⟨none, 0, rfl⟩, fun j x hj => by simp at hj⟩, fun k o l c e => by cases e⟩
  · simp at hcs
    subst hcs
    exact CameIn.cuts (w := w) (a := some x) (len := l) (cap := cap) (zs := zs) (.inr ⟨_, rfl, hl, hm, by simpa using hz, hcell, hwz⟩)

set_option maxRecDepth 100000 in
theorem op_came {n : Nat} {cs : List Value} {b o : Nat} {x : DataW H × List MemPlace} (hlen : cs.length = 7) (hcell : ∀ i, i < 7 → w.cell? ⟨b, o + i, none⟩ = cs[i]?) (h : DataW.trod enc Try.prog w 0 (fun _ => true) true n 34 cs = some x) : ∃ v, OpAt w b o v := by
  obtain ⟨xs, m, _, _, _, hl, hf⟩ := DataW.trod_struct Try.underlying34 h
  match cs, hlen with
  | [v0, v1, v2, v3, v4, v5, v6], _ =>
    match xs, hl with
    | [y0, y1, y2, y3, y4, y5, y6], _ =>
      have t0 := hf 0 _ rfl
      have t1 := hf 1 _ rfl
      have t2 := hf 2 _ rfl
      have t3 := hf 3 _ rfl
      have t4 := hf 4 _ rfl
      have t5 := hf 5 _ rfl
      have t6 := hf 6 _ rfl
      simp [cells3, cells9', cells31, cells32] at t0 t1 t2 t3 t4 t5 t6
      obtain ⟨a0, e0, _, w0⟩ := DataW.trod_int Try.underlying3 t0
      obtain ⟨a1, e1, _, w1⟩ := DataW.trod_int Try.underlying3 t1
      obtain ⟨a2, e2, _, w2⟩ := DataW.trod_int Try.underlying3 t2
      obtain ⟨s3, e3, _, w3⟩ := DataW.trod_string Try.underlying9 t3
      obtain ⟨s4, e4, _, w4⟩ := DataW.trod_string Try.underlying9 t4
      obtain ⟨bs, hb, hbl⟩ := bytes_came t5
      obtain ⟨ks, hc, hcl⟩ := cuts_came t6
      simp at e0 e1 e2 e3 e4
      subst e0 e1 e2 e3 e4
      exact ⟨⟨a0, a1, a2, s3, s4, v5, bs, v6, ks⟩, hcell 0 (by omega), hcell 1 (by omega), hcell 2 (by omega), hcell 3 (by omega), hcell 4 (by omega), hcell 5 (by omega), hcell 6 (by omega), w0, w1, w2, w3, w4, hb, hbl, hc, hcl⟩

set_option maxRecDepth 100000 in
/-- The slice of operations: nothing, or a row of them. -/
theorem ops_came {a : Option Addr} {len cap : Nat} {d : DataW H} {p : List MemPlace} (h : DataW.Trod enc Try.prog w 0 (fun _ => true) true 22 (.slice a len cap) d p) :
    len = 0 ∨ ∃ b o, a = some ⟨b, o, none⟩ ∧ b < w.heap.size ∧ ∃ f : Nat → OpV, ∀ i, i < len → OpAt w b (o + i * 7) (f i) := by
  obtain ⟨fuel, hf⟩ := h
  rcases open_slice Try.underlying22 hf with ⟨hcs, _⟩ | ⟨x, l, c, m, n, D, Pl, hcs, _, hl, hm, hmm, _, hel⟩
  · simp [Value.cells] at hcs
    exact Or.inl hcs.2.1
  · simp [Value.cells] at hcs
    obtain ⟨rfl, rfl, rfl⟩ := hcs
    rcases Nat.eq_zero_or_pos len with h0 | h0
    · exact Or.inl h0
    · right
      simp at hmm
      obtain ⟨b, o, spot⟩ := x
      have hsp : spot = none := by
        obtain ⟨cs, hc, _⟩ := hel 0 (by omega)
        obtain ⟨_, hlen, hcell⟩ := World.cells?_some hc
        rw [cells34] at hlen hcell
        have h1 := hcell 0 (by omega)
        have e : ((⟨b, o, spot⟩ : Addr).add (0 * 7)).add 0 = ⟨b, o, spot⟩ := by simp [Addr.add]
        rw [e, List.getElem?_eq_getElem (by omega)] at h1
        exact World.cell?_spot h1
      subst hsp
      have key : ∀ i, i < len → ∃ v, OpAt w b (o + i * 7) v := fun i hi => by
        obtain ⟨cs, hc, ht⟩ := hel i (by omega)
        obtain ⟨_, hlen, hcell⟩ := World.cells?_some hc
        rw [cells34] at hlen hcell
        refine op_came hlen (fun j hj => ?_) ht
        have := hcell j hj
        rw [add_plain, add_plain] at this
        exact this
      obtain ⟨f, hf'⟩ := choose_lt key
      refine ⟨b, o, rfl, ?_, f, hf'⟩
      have := World.block_lt_of_cell? w _ (hf' 0 h0).c0
      exact this
end

theorem OpAt.below {w w' : World} {b o : Nat} {x : OpV} (h : OpAt w b o x) (hb : Below w.heap.size w w') (hlt : b < w.heap.size) : OpAt w' b o x := by
  have k : Kept (fun _ => False) w w' := (Kept.refl (fun _ => False) w).below hb
  have e : ∀ j, w'.cell? ⟨b, j, none⟩ = w.cell? ⟨b, j, none⟩ := fun j => hb.cell (p := ⟨b, j, none⟩) hlt
  have hs := hb.size
  exact ⟨(e _).trans h.c0, (e _).trans h.c1, (e _).trans h.c2, (e _).trans h.c3, (e _).trans h.c4, (e _).trans h.c5, (e _).trans h.c6, h.wa, h.wn, h.wk, h.wname, h.wto, h.bytes.below hb, fun k h1 h2 => by have := h.low k h1 h2; omega, h.cuts.kept k (fun _ _ _ _ _ _ e => e), fun k o l c h1 h2 => by have := h.lowc k o l c h1 h2; omega⟩

end Go.Proofs.Ytihoccaaecmcfaa
