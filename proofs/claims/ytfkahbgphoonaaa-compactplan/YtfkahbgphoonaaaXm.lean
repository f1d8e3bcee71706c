/- What comes in: blocks. -/
import Derived.Test.YtfkahbgphoonaaaXe
import Derived.Test.YtfkahbgphoonaaaRows
import Derived.Deep.Slices
import Derived.Deep.Strs
import Derived.ProofKit
namespace Go.Proofs.Ytfkahbgphoonaaa
open Go.ChangeShapes Go.WideShapes Go.ChangeAt Go.RowKit
open Go.Deep (open_slice choose_lt)

theorem cellsSt : Try.prog.cellsOf 9 = 1 := by kernel_rfl
theorem cellsIn : Try.prog.cellsOf 3 = 1 := by kernel_rfl
theorem cellsMt : Try.prog.cellsOf 31 = 4 := by kernel_rfl

section
variable {H : Type} {enc : TypeId × Value → H} {w : World}

set_option maxRecDepth 100000 in
theorem meta_came {n : Nat} {cs : List Value} {b o : Nat} {x : DataW H × List MemPlace} (hlen : cs.length = 4) (hcell : ∀ i, i < 4 → w.cell? ⟨b, o + i, none⟩ = cs[i]?) (h : DataW.trod enc Try.prog w 0 (fun _ => true) true n 31 cs = some x) :
    ∃ m : Mt, w.cell? ⟨b, o, none⟩ = some (.string m.nm) ∧ w.cell? ⟨b, o + 1, none⟩ = some (.int .i64 m.lo) ∧ w.cell? ⟨b, o + 2, none⟩ = some (.int .i64 m.hi) ∧ w.cell? ⟨b, o + 3, none⟩ = some (.int .i64 m.lv) ∧ m.nm.size ≤ maxLen := by
  obtain ⟨xs, m, _, _, _, hl, hf⟩ := DataW.trod_struct Try.underlying31 h
  match cs, hlen with
  | [v0, v1, v2, v3], _ =>
    match xs, hl with
    | [y0, y1, y2, y3], _ =>
      have t0 := hf 0 _ rfl
      have t1 := hf 1 _ rfl
      have t2 := hf 2 _ rfl
      have t3 := hf 3 _ rfl
      simp [cellsSt, cellsIn] at t0 t1 t2 t3
      obtain ⟨s0, e0, _, w0⟩ := DataW.trod_string Try.underlying9 t0
      obtain ⟨z1, e1, _, w1⟩ := DataW.trod_int Try.underlying3 t1
      obtain ⟨z2, e2, _, w2⟩ := DataW.trod_int Try.underlying3 t2
      obtain ⟨z3, e3, _, w3⟩ := DataW.trod_int Try.underlying3 t3
      simp at e0 e1 e2 e3
      subst e0 e1 e2 e3
      exact ⟨⟨s0, z1, z2, z3⟩, hcell 0 (by omega), hcell 1 (by omega), hcell 2 (by omega), hcell 3 (by omega), w0⟩

theorem mtC_get (l : List Mt) (j : Nat) (u : Value) (h : (mtC l)[j]? = some u) : ∃ k i, ∃ hk : k < l.length, i < 4 ∧ j = k * 4 + i ∧ (mtV l[k])[i]? = some u := by
  have hj : j < (mtC l).length := (List.getElem?_eq_some_iff.1 h).1
  rw [mtC_length] at hj
  refine ⟨j / 4, j % 4, by omega, by omega, by omega, ?_⟩
  have h9 := flat_at mtV 4 (fun _ => rfl) l (j / 4) (by omega) (j % 4) (by omega)
  rw [← h9, show j / 4 * 4 + j % 4 = j by omega]
  exact h

set_option maxRecDepth 100000 in
/-- A slice of blocks. -/
theorem metas_came {a : Option Addr} {len cap : Nat} {d : DataW H} {p : List MemPlace} (h : DataW.Trod enc Try.prog w 0 (fun _ => true) true 22 (.slice a len cap) d p) :
    ∃ ls : List Mt, MtAt w (.slice a len cap) ls ∧ ∀ m ∈ ls, m.nm.size ≤ maxLen := by
  obtain ⟨fuel, hf⟩ := h
  rcases open_slice Try.underlying22 hf with ⟨hcs, _⟩ | ⟨x, l, c, m, n, D, Pl, hcs, _, hl, hm, hmm, _, hel⟩
  · simp [Value.cells] at hcs
    obtain ⟨rfl, rfl, rfl⟩ := hcs
    exact ⟨[], ⟨none, 0, rfl, ⟨Nat.le_refl _, Nat.zero_le _⟩, rfl, fun j u hu => by simp [mtC] at hu⟩, fun m hm => by simp at hm⟩
  · simp [Value.cells] at hcs
    obtain ⟨rfl, rfl, rfl⟩ := hcs
    simp at hmm
    obtain ⟨b, o, spot⟩ := x
    have hsp : 0 < len → spot = none := fun h0 => by
      obtain ⟨cs, hc, _⟩ := hel 0 (by omega)
      obtain ⟨_, hlen, hcell⟩ := World.cells?_some hc
      rw [cellsMt] at hlen hcell
      have h1 := hcell 0 (by omega)
      have e : ((⟨b, o, spot⟩ : Addr).add (0 * 4)).add 0 = ⟨b, o, spot⟩ := by simp [Addr.add]
      rw [e, List.getElem?_eq_getElem (by omega)] at h1
      exact World.cell?_spot h1
    have key : ∀ i, i < len → ∃ m : Mt, w.cell? ⟨b, o + i * 4, none⟩ = some (.string m.nm) ∧ w.cell? ⟨b, o + i * 4 + 1, none⟩ = some (.int .i64 m.lo) ∧ w.cell? ⟨b, o + i * 4 + 2, none⟩ = some (.int .i64 m.hi) ∧ w.cell? ⟨b, o + i * 4 + 3, none⟩ = some (.int .i64 m.lv) ∧ m.nm.size ≤ maxLen := fun i hi => by
      have hs := hsp (by omega)
      subst hs
      obtain ⟨cs, hc, ht⟩ := hel i (by omega)
      obtain ⟨_, hlen, hcell⟩ := World.cells?_some hc
      rw [cellsMt] at hlen hcell
      refine meta_came hlen (fun j hj => ?_) ht
      have := hcell j hj
      rw [Addr.add_lit, Addr.add_lit] at this
      exact this
    obtain ⟨f, hf'⟩ := choose_lt key
    have hfl : ((List.range len).map f).length = len := by simp
    refine ⟨(List.range len).map f, ⟨some ⟨b, o, spot⟩, cap, by rw [hfl], ⟨by omega, hm⟩, mtC_length _, fun j u hu => ?_⟩, fun m hm => ?_⟩
    · obtain ⟨k, i, hk, hi, rfl, hv⟩ := mtC_get _ j u hu
      have hk' : k < len := by omega
      have e : ((List.range len).map f)[k] = f k := by simp
      rw [e] at hv
      obtain ⟨h1, h2, h3, h4, _⟩ := hf' k hk'
      rw [hsp (by omega)]
      refine ⟨b, o, rfl, World.block_lt_of_cell? w _ h1, ?_⟩
      obtain rfl | rfl | rfl | rfl : i = 0 ∨ i = 1 ∨ i = 2 ∨ i = 3 := by omega
      · simp [mtV] at hv; subst hv; exact h1
      · simp [mtV] at hv; subst hv; exact h2
      · simp [mtV] at hv; subst hv; exact h3
      · simp [mtV] at hv; subst hv; exact h4
    · obtain ⟨k, hk, rfl⟩ := List.mem_map.1 hm
      exact (hf' k (by simpa using hk)).2.2.2.2

end
end Go.Proofs.Ytfkahbgphoonaaa
