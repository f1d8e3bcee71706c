/- What comes in: samples. -/
import Derived.Test.YtkmclgbiedbfpaaDoorKo
namespace Go.Proofs.YtkmclgbiedbfpaaDoor
open Go.ChangeShapes Go.WideShapes Go.ChangeAt Go.RowKit
open Go.Deep (open_slice choose_lt)

section
variable {H : Type} {enc : TypeId × Value → H} {w : World}
theorem trod_f {n : Nat} {cs : List Value} {x : DataW H × List MemPlace} (h : DataW.trod enc Tryd.prog w 0 (fun _ => true) true n 33 cs = some x) : ∃ b, cs = [.float .f64 b] ∧ (Lit.float .f64 b).wf = true := by
  cases n with
  | zero => simp [DataW.trod] at h
  | succ n =>
    unfold DataW.trod at h
    rw [Tryd.underlying33] at h
    split at h <;> simp_all
theorem wf_f {b : Nat} (h : (Lit.float .f64 b).wf = true) : b < 18446744073709551616 := by
  simpa [Lit.wf] using h

set_option maxRecDepth 100000 in
theorem sample_came {n : Nat} {cs : List Value} {b o : Nat} {x : DataW H × List MemPlace} (hlen : cs.length = 2) (hcell : ∀ i, i < 2 → w.cell? ⟨b, o + i, none⟩ = cs[i]?) (h : DataW.trod enc Tryd.prog w 0 (fun _ => true) true n 35 cs = some x) : ∃ l : Sm, w.cell? ⟨b, o, none⟩ = some (.int .i64 (sg l.1)) ∧ w.cell? ⟨b, o + 1, none⟩ = some (.float .f64 l.2.toNat) := by
  obtain ⟨xs, m, _, _, _, hl, hf⟩ := DataW.trod_struct Tryd.underlying35 h
  match cs, hlen with
  | [v0, v1], _ =>
    match xs, hl with
    | [y0, y1], _ =>
      have t0 := hf 0 _ rfl
      have t1 := hf 1 _ rfl
      simp [cells3, cellsF] at t0 t1
      obtain ⟨z0, e0, _, w0⟩ := DataW.trod_int Tryd.underlying3 t0
      obtain ⟨z1, e1, w1⟩ := trod_f t1
      simp at e0 e1
      subst e0 e1
      have hb : -9223372036854775808 ≤ z0 ∧ z0 ≤ 9223372036854775807 := by
        have e1 : IntKind.i64.min = -9223372036854775808 := by decide
        have e2 : IntKind.i64.max = 9223372036854775807 := by decide
        simp [Lit.wf, e1, e2] at w0
        exact w0
      have hz := wf_f w1
      refine ⟨(UInt64.ofNat (z0 % 18446744073709551616).toNat, UInt64.ofNat z1), ?_, ?_⟩
      · rw [sg_back (by omega) (by omega)]
        exact hcell 0 (by omega)
      · have : (UInt64.ofNat z1).toNat = z1 := by rw [UInt64.toNat_ofNat']; exact Nat.mod_eq_of_lt hz
        show w.cell? ⟨b, o + 1, none⟩ = some (Value.float .f64 (UInt64.ofNat z1).toNat)
        rw [this]
        exact hcell 1 (by omega)

set_option maxRecDepth 100000 in
/-- A slice of samples. -/
theorem smps_came {a : Option Addr} {len cap : Nat} {d : DataW H} {p : List MemPlace} (h : DataW.Trod enc Tryd.prog w 0 (fun _ => true) true 22 (.slice a len cap) d p) :
    ∃ ls : List Sm, SmpAt w (.slice a len cap) ls := by
  obtain ⟨fuel, hf⟩ := h
  rcases open_slice Tryd.underlying22 hf with ⟨hcs, _⟩ | ⟨x, l, c, m, n, D, Pl, hcs, _, hl, hm, hmm, _, hel⟩
  · simp [Value.cells] at hcs
    obtain ⟨rfl, rfl, rfl⟩ := hcs
    exact ⟨[], SmpAt.nil⟩
  · simp [Value.cells] at hcs
    obtain ⟨rfl, rfl, rfl⟩ := hcs
    simp at hmm
    obtain ⟨b, o, spot⟩ := x
    have hsp : 0 < len → spot = none := fun h0 => by
      obtain ⟨cs, hc, _⟩ := hel 0 (by omega)
      obtain ⟨_, hlen, hcell⟩ := World.cells?_some hc
      rw [cellsSm] at hlen hcell
      have h1 := hcell 0 (by omega)
      have e : ((⟨b, o, spot⟩ : Addr).add (0 * 2)).add 0 = ⟨b, o, spot⟩ := by simp [Addr.add]
      rw [e, List.getElem?_eq_getElem (by omega)] at h1
      exact World.cell?_spot h1
    have key : ∀ i, i < len → ∃ l : Sm, w.cell? ⟨b, o + i * 2, none⟩ = some (.int .i64 (sg l.1)) ∧ w.cell? ⟨b, o + i * 2 + 1, none⟩ = some (.float .f64 l.2.toNat) := fun i hi => by
      have hs := hsp (by omega)
      subst hs
      obtain ⟨cs, hc, ht⟩ := hel i (by omega)
      obtain ⟨_, hlen, hcell⟩ := World.cells?_some hc
      rw [cellsSm] at hlen hcell
      refine sample_came hlen (fun j hj => ?_) ht
      have := hcell j hj
      rw [add_plain, add_plain] at this
      exact this
    obtain ⟨f, hf'⟩ := choose_lt key
    have hfl : ((List.range len).map f).length = len := by simp
    refine ⟨(List.range len).map f, some ⟨b, o, spot⟩, cap, by rw [hfl], ⟨by omega, hm⟩, (fun e9 => by cases e9), fun k hk => ?_⟩
    have hk' : k < len := by omega
    have e : ((List.range len).map f)[k] = f k := by simp
    obtain ⟨h1, h2⟩ := hf' k hk'
    rw [e, hsp (by omega)]
    exact ⟨b, o, rfl, World.block_lt_of_cell? w _ h1, h1, h2⟩
end
def putC (cs : Array Value) : Obj → Obj
  | .cells _ t frozen => .cells cs t frozen
  | o => o
/-- A world that holds the two variables. -/
def laidW (w0 : World) : World := { w0 with heap := (w0.heap.modify (Tryd.lays29_ren.g 1) (putC (brTab.map fun z => Value.int .u8 z).toArray)).modify 1 (putC #[.int .i64 7, .int .i64 9, .int .i64 12]) }

end Go.Proofs.YtkmclgbiedbfpaaDoor
