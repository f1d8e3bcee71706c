/- The operations that come in, and how long what they name is. -/
import Derived.Test.YtipakfdebccchaaMWe
import Derived.Deep.Slices
import Derived.Deep.Strs
import Derived.SizedLaws
import Derived.ProofKit
import Derived.OpenShut
namespace Go.Proofs.Ytipakfdebccchaa
open Go.ChangeShapes Go.WideShapes Go.ChangeAt Go.RowKit
open Go.Deep (open_slice choose_lt)

/-- A slice of numbers that came in. -/
def CameIn (q : IntKind) (w : World) (a : Option Addr) (len cap : Nat) (zs : List Int) : Prop :=
  (a = none ∧ len = 0 ∧ cap = 0 ∧ zs = []) ∨ ∃ x, a = some x ∧ len ≤ cap ∧ cap ≤ maxLen ∧ zs.length = cap ∧ (∀ i, i < zs.length → w.cell? (x.add i) = some (.int q (zs.getD i 0))) ∧ ∀ n ∈ zs, (Lit.int q n).wf = true

theorem u8_wf {n : Int} (h : (Lit.int .u8 n).wf = true) : ((UInt8.ofNat n.toNat).toNat : Int) = n := by
  have := bounds_u8 h
  have e : (UInt8.ofNat n.toNat).toNat = n.toNat % 256 := by simp
  rw [e]
  omega

theorem CameIn.bytes {w : World} {a : Option Addr} {len cap : Nat} {zs : List Int} (h : CameIn .u8 w a len cap zs) : ∃ bs : List UInt8, bs.length = len ∧ BytesAt w (.slice a len cap) bs ∧ (∀ k, (Value.slice a len cap).ownBlock = some k → bs ≠ [] → k < w.heap.size) := by
  rcases h with ⟨rfl, rfl, rfl, rfl⟩ | ⟨x, rfl, h1, h2, h3, h4, h5⟩
  · exact ⟨[], rfl, Or.inl ⟨rfl, rfl⟩, fun k hk => by cases hk⟩
  · have hlen : ((zs.take len).map fun n => UInt8.ofNat n.toNat).length = len := by simp; omega
    refine ⟨(zs.take len).map fun n => UInt8.ofNat n.toNat, hlen, Or.inr ⟨x, cap, by rw [hlen], by omega, h2, fun j u hj => ?_⟩, fun k hk hne => ?_⟩
    · have hjl : j < len := by
        have := (List.getElem?_eq_some_iff.1 hj).1
        rw [byteVals_length, hlen] at this
        exact this
      have hz : zs[j]? = some (zs.getD j 0) := by simp [List.getD, show j < zs.length by omega]
      have hw := h5 (zs.getD j 0) (List.mem_of_getElem? hz)
      have e : (byteVals ((zs.take len).map fun n => UInt8.ofNat n.toNat))[j]? = some (.int .u8 (zs.getD j 0)) := by
        simp only [byteVals, List.map_map, List.getElem?_map, List.getElem?_take, hjl, if_true, hz, Option.map_some, Function.comp]
        rw [u8_wf hw]
      rw [e] at hj
      cases hj
      exact h4 j (by omega)
    · simp [Value.ownBlock] at hk
      subst hk
      have h0 : 0 < zs.length := by
        rcases Nat.eq_zero_or_pos len with e | e
        · subst e; simp at hne
        · omega
      have := World.block_lt_of_cell? w _ (h4 0 h0)
      rwa [add_block] at this

theorem CameIn.ints {w : World} {a : Option Addr} {len cap : Nat} {zs : List Int} (h : CameIn .i64 w a len cap zs) : ∃ cs : List Int, cs.length ≤ zs.length ∧ IntsAt w (.slice a len cap) cs ∧ (∀ k, (Value.slice a len cap).ownBlock = some k → cs ≠ [] → k < w.heap.size) := by
  rcases h with ⟨rfl, rfl, rfl, rfl⟩ | ⟨x, rfl, h1, h2, h3, h4, h5⟩
  · exact ⟨[], Nat.le_refl _, ⟨none, 0, rfl, ⟨Nat.le_refl _, Nat.zero_le _⟩, fun j hj => absurd hj (Nat.not_lt_zero j)⟩, fun k hk => by cases hk⟩
  · have hlen : (zs.take len).length = len := by simp; omega
    refine ⟨zs.take len, by omega, ⟨some x, cap, by rw [hlen], ⟨by omega, h2⟩, fun j hj => ?_⟩, fun k hk hne => ?_⟩
    · have hjl : j < len := by omega
      have hc := h4 j (by omega)
      have hlt := World.block_lt_of_cell? w _ (h4 0 (by omega))
      rw [add_block] at hlt
      obtain ⟨b, o, spot⟩ := x
      have hspot : spot = none := by simpa [Addr.add] using World.cell?_spot (h4 0 (by omega))
      subst hspot
      refine ⟨b, o, rfl, hlt, ?_⟩
      rw [add_plain] at hc
      rw [hc]
      simp [List.getD, show j < zs.length by omega]
    · simp [Value.ownBlock] at hk
      subst hk
      have h0 : 0 < zs.length := by
        rcases Nat.eq_zero_or_pos len with e | e
        · subst e; simp at hne
        · omega
      have := World.block_lt_of_cell? w _ (h4 0 h0)
      rwa [add_block] at this

theorem cellsOp : Try.prog.cellsOf 34 = 7 := by kernel_rfl
theorem cellsInt : Try.prog.cellsOf 3 = 1 := by kernel_rfl
theorem cellsStr : Try.prog.cellsOf 9 = 1 := by kernel_rfl
theorem cellsBs : Try.prog.cellsOf 31 = 1 := by kernel_rfl
theorem cellsIs : Try.prog.cellsOf 32 = 1 := by kernel_rfl
theorem bytesInt : Try.prog.bytesOf 3 = 8 := by kernel_rfl

section
variable {H : Type} {enc : TypeId × Value → H} {w : World}

theorem wt_all {P : Program} {e : TypeId} {d : DataW H} {n : Nat} : ∀ {l : List (DataW H)}, d ∈ l → n ∈ d.weights P e → n ∈ DataW.weightsAll P e l
  | x :: r, hd, hn => by
    simp only [DataW.weightsAll, List.mem_append]
    rcases List.mem_cons.1 hd with rfl | hd
    · exact Or.inl hn
    · exact Or.inr (wt_all hd hn)

theorem bytes_came {n : Nat} {c : Value} {x : DataW H × List MemPlace} (h : DataW.trod enc Try.prog w 0 (fun _ => true) true n 31 [c] = some x) : ∃ bs : List UInt8, BytesAt w c bs ∧ (∀ k, c.ownBlock = some k → bs ≠ [] → k < w.heap.size) := by
  rcases open_ints Try.underlying31 Try.underlying5 (by kernel_rfl) h with ⟨hcs, _⟩ | ⟨x, l, cap, zs, hcs, _, hl, hm, hz, _, hcell, hwz⟩
  · simp at hcs
    subst hcs
    exact ⟨[], Or.inl ⟨rfl, rfl⟩, fun k hk => by cases hk⟩
  · simp at hcs
    subst hcs
    obtain ⟨bs, _, h1, h2⟩ := CameIn.bytes (w := w) (a := some x) (len := l) (cap := cap) (zs := zs) (.inr ⟨_, rfl, hl, hm, by simpa using hz, hcell, hwz⟩)
    exact ⟨bs, h1, h2⟩

theorem ints_came {n : Nat} {c : Value} {x : DataW H × List MemPlace} (h : DataW.trod enc Try.prog w 0 (fun _ => true) true n 32 [c] = some x) (hw : ∀ q ∈ x.1.weights Try.prog 32, q ≤ reachBytes) : ∃ cs : List Int, cs.length ≤ 17592186044416 ∧ IntsAt w c cs ∧ (∀ k, c.ownBlock = some k → cs ≠ [] → k < w.heap.size) := by
  rcases open_ints Try.underlying32 Try.underlying3 (by kernel_rfl) h with ⟨hcs, _⟩ | ⟨x, l, cap, zs, hcs, _, hl, hm, hz, hx, hcell, hwz⟩
  · simp at hcs
    subst hcs
    exact ⟨[], Nat.zero_le _, ⟨none, 0, rfl, ⟨Nat.le_refl _, Nat.zero_le _⟩, fun j hj => absurd hj (Nat.not_lt_zero j)⟩, fun k hk => by cases hk⟩
  · simp at hcs
    subst hcs
    obtain ⟨cs, h0, h1, h2⟩ := CameIn.ints (w := w) (a := some x) (len := l) (cap := cap) (zs := zs) (.inr ⟨_, rfl, hl, hm, by simpa using hz, hcell, hwz⟩)
    subst hx
    have h3 := hw (((lits (H := H) .i64 (zs.take l)).length + (lits (H := H) .i64 (zs.drop l)).length) * Try.prog.bytesOf 3) (by simp [DataW.weights, Try.underlying32])
    have h4 : (lits (H := H) .i64 (zs.take l)).length + (lits (H := H) .i64 (zs.drop l)).length = zs.length := by
      simp only [lits, List.length_map, List.length_take, List.length_drop]
      omega
    rw [h4, bytesInt] at h3
    have h5 : reachBytes < 140737488355328 := by decide
    exact ⟨cs, by omega, h1, h2⟩

set_option maxRecDepth 100000 in
theorem op_came {n : Nat} {cs : List Value} {b o : Nat} {x : DataW H × List MemPlace} (hlen : cs.length = 7) (hcell : ∀ i, i < 7 → w.cell? ⟨b, o + i, none⟩ = cs[i]?) (h : DataW.trod enc Try.prog w 0 (fun _ => true) true n 34 cs = some x) (hw : ∀ q ∈ x.1.weights Try.prog 34, q ≤ reachBytes) : ∃ v, OpAt w b o v := by
  obtain ⟨xs, m, _, hx, _, hl, hf⟩ := DataW.trod_struct Try.underlying34 h
  match cs, hlen with
  | [v0, v1, v2, v3, v4, v5, v6], _ =>
    match xs, hl with
    | [y0, y1, y2, y3, y4, y5, y6], _ =>
      have t0 := hf 0 _ rfl
      have t1 := hf 1 _ rfl
      have t2 := hf 2 _ rfl
      have t3 := hf 3 _ rfl
      have t4 := hf 4 _ rfl
      have t5 := hf 5 _ rfl
      have t6 := hf 6 _ rfl
      simp [cellsInt, cellsStr, cellsBs, cellsIs] at t0 t1 t2 t3 t4 t5 t6
      obtain ⟨a0, e0, _, w0⟩ := DataW.trod_int Try.underlying3 t0
      obtain ⟨a1, e1, _, w1⟩ := DataW.trod_int Try.underlying3 t1
      obtain ⟨a2, e2, _, w2⟩ := DataW.trod_int Try.underlying3 t2
      obtain ⟨s3, e3, _, w3⟩ := DataW.trod_string Try.underlying9 t3
      obtain ⟨s4, e4, _, w4⟩ := DataW.trod_string Try.underlying9 t4
      obtain ⟨bs, hb, hbl⟩ := bytes_came t5
      have hw6 : ∀ q ∈ y6.1.weights Try.prog 32, q ≤ reachBytes := fun q hq => hw q (by
        rw [hx]
        simp only [DataW.weights, Try.underlying34]
        exact DataW.weights_mem_each (j := 6) (t := 32) (d := y6.1) rfl rfl q hq)
      obtain ⟨ks, hkl, hc, hcl⟩ := ints_came t6 hw6
      simp at e0 e1 e2 e3 e4
      subst e0 e1 e2 e3 e4
      have b0 := bounds_i64 w0
      have b1 := bounds_i64 w1
      exact ⟨⟨a0, a1, a2, s3, s4, v5, bs, v6, ks⟩, hcell 0 (by omega), hcell 1 (by omega), hcell 2 (by omega), hcell 3 (by omega), hcell 4 (by omega), hcell 5 (by omega), hcell 6 (by omega), ⟨b0.1, b0.2, b1.2, w2, w3, w4, ⟨hb, hbl⟩, hc, hcl, hkl⟩⟩

set_option maxRecDepth 100000 in
/-- The slice of operations: nothing, or a row of them. -/
theorem ops_came {a : Option Addr} {len cap : Nat} {d : DataW H} {p : List MemPlace} (h : DataW.Trod enc Try.prog w 0 (fun _ => true) true 22 (.slice a len cap) d p) (hw : ∀ q ∈ d.weights Try.prog 22, q ≤ reachBytes) :
    len = 0 ∨ ∃ b o, a = some ⟨b, o, none⟩ ∧ b < w.heap.size ∧ ∃ f : Nat → OpV, ∀ i, i < len → OpAt w b (o + i * 7) (f i) := by
  obtain ⟨fuel, hf⟩ := h
  rcases open_slice Try.underlying22 hf with ⟨hcs, _⟩ | ⟨x, l, c, m, n, D, Pl, hcs, _, hl, hm, hmm, hx, hel⟩
  · simp [Value.cells] at hcs
    exact Or.inl hcs.2.1
  · simp [Value.cells] at hcs
    obtain ⟨rfl, rfl, rfl⟩ := hcs
    rcases Nat.eq_zero_or_pos len with h0 | h0
    · exact Or.inl h0
    · right
      simp at hmm
      have hd : d = .slice ((List.range len).map D) ((List.range (m - len)).map fun j => D (len + j)) := congrArg Prod.fst hx
      have hwi : ∀ i, i < len → ∀ q ∈ (D i).weights Try.prog 34, q ≤ reachBytes := fun i hi q hq => hw q (by
        rw [hd]
        simp only [DataW.weights, Try.underlying22]
        exact List.mem_cons_of_mem _ (List.mem_append.2 (Or.inl (wt_all (List.mem_map.2 ⟨i, List.mem_range.2 hi, rfl⟩) hq))))
      obtain ⟨b, o, spot⟩ := x
      have hsp : spot = none := by
        obtain ⟨cs, hc, _⟩ := hel 0 (by omega)
        obtain ⟨_, hlen, hcell⟩ := World.cells?_some hc
        rw [cellsOp] at hlen hcell
        have h1 := hcell 0 (by omega)
        have e : ((⟨b, o, spot⟩ : Addr).add (0 * 7)).add 0 = ⟨b, o, spot⟩ := by simp [Addr.add]
        rw [e, List.getElem?_eq_getElem (by omega)] at h1
        exact World.cell?_spot h1
      subst hsp
      have key : ∀ i, i < len → ∃ v, OpAt w b (o + i * 7) v := fun i hi => by
        obtain ⟨cs, hc, ht⟩ := hel i (by omega)
        obtain ⟨_, hlen, hcell⟩ := World.cells?_some hc
        rw [cellsOp] at hlen hcell
        refine op_came hlen (fun j hj => ?_) ht (hwi i hi)
        have := hcell j hj
        rw [add_plain, add_plain] at this
        exact this
      haveI : Inhabited OpV := ⟨⟨0, 0, 0, ByteArray.empty, ByteArray.empty, .slice none 0 0, [], .slice none 0 0, []⟩⟩
      obtain ⟨f, hf'⟩ := choose_lt key
      refine ⟨b, o, rfl, ?_, f, hf'⟩
      have := World.block_lt_of_cell? w _ (hf' 0 h0).c0
      exact this
end

end Go.Proofs.Ytipakfdebccchaa
