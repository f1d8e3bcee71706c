/- What comes in: labels, matchers; utf8's tables. -/
import Derived.Test.YtlfcnekmdojabaaDoorLh
import Derived.Test.YtlfcnekmdojabaaDoorTx
import Derived.Test.YtlfcnekmdojabaaDoorRows
import Derived.Deep.Slices
import Derived.Deep.Strs
import Derived.ProofKit
import Derived.Lib.LaidU8T
import Derived.Lib.LaidIn
import Derived.MakeChecks
namespace Go.Proofs.YtlfcnekmdojabaaDoor
open Go.ChangeShapes Go.WideShapes Go.ChangeAt Go.RowKit
open Go.Deep (open_slice choose_lt)

theorem own : ownKnob Tryd.prog.godebug = none := by kernel_rfl
theorem laidOut : laidOutB Tryd.prog = true := by kernel_rfl
theorem cells9 : Tryd.prog.cellsOf 9 = 1 := by kernel_rfl
theorem cells3 : Tryd.prog.cellsOf 3 = 1 := by kernel_rfl
theorem cellsLb : Tryd.prog.cellsOf 28 = 2 := by kernel_rfl

/-- What the row's list gives: utf8's tables. -/
theorem tabs_of {W : World} (h : laidMetH Tryd.prog Rows.labelsAllRow.laid W) : Tabs W := by
  rw [MakeChecks.laidMetH_plain _ _ _ (by kernel_rfl)] at h
  have e1 : Rows.laid_unicode_utf8_first = Lib.firstData := by kernel_rfl
  have e2 : (Rows.laid_unicode_utf8_acceptRanges : DataW Unit) = Lib.acceptData := by kernel_rfl
  have h3 := Lib.laidMet.reads h (.tail _ (.head _))
  have h4 := Lib.laidMet.reads h (.head _)
  rw [e1] at h3
  rw [e2] at h4
  have ht := utf8Tabs_of_readsT (U8Types.of196 Tryd.laysValid) ⟨by kernel_rfl, by kernel_rfl, by kernel_rfl, by kernel_rfl, by kernel_rfl, by kernel_rfl, by kernel_rfl⟩ h3 h4
  refine ⟨ht, ?_, ?_⟩
  · have := World.block_lt_of_cell? W _ (ht.1 0 (by decide))
    exact this
  · have := World.block_lt_of_cell? W _ (ht.2 0 (by decide)).1
    exact this
def putC (cs : Array Value) : Obj → Obj
  | .cells _ t frozen => .cells cs t frozen
  | o => o
/-- A world that holds the two tables. -/
def laidW (w0 : World) : World := { w0 with heap := (w0.heap.modify 0 (putC (Lib.firstTab.map fun z => Value.int .u8 z).toArray)).modify 1 (putC ((List.range 16).flatMap fun i => [Value.int .u8 (Lib.accLo i), Value.int .u8 (Lib.accHi i)]).toArray) }

section
variable {H : Type} {enc : TypeId × Value → H} {w : World}

set_option maxRecDepth 100000 in
theorem label_came {n : Nat} {cs : List Value} {b o : Nat} {x : DataW H × List MemPlace} (hlen : cs.length = 2) (hcell : ∀ i, i < 2 → w.cell? ⟨b, o + i, none⟩ = cs[i]?) (h : DataW.trod enc Tryd.prog w 0 (fun _ => true) true n 28 cs = some x) : ∃ l : Lb, w.cell? ⟨b, o, none⟩ = some (.string l.1) ∧ w.cell? ⟨b, o + 1, none⟩ = some (.string l.2) ∧ l.1.size ≤ maxLen ∧ l.2.size ≤ maxLen := by
  obtain ⟨xs, m, _, _, _, hl, hf⟩ := DataW.trod_struct Tryd.underlying28 h
  match cs, hlen with
  | [v0, v1], _ =>
    match xs, hl with
    | [y0, y1], _ =>
      have t0 := hf 0 _ rfl
      have t1 := hf 1 _ rfl
      simp [cells9] at t0 t1
      obtain ⟨s0, e0, _, w0⟩ := DataW.trod_string Tryd.underlying9 t0
      obtain ⟨s1, e1, _, w1⟩ := DataW.trod_string Tryd.underlying9 t1
      simp at e0 e1
      subst e0 e1
      exact ⟨(s0, s1), hcell 0 (by omega), hcell 1 (by omega), w0, w1⟩

set_option maxRecDepth 100000 in
/-- A slice of labels. -/
theorem labs_came {a : Option Addr} {len cap : Nat} {d : DataW H} {p : List MemPlace} (h : DataW.Trod enc Tryd.prog w 0 (fun _ => true) true 22 (.slice a len cap) d p) :
    ∃ ls : List Lb, LabsAt w (.slice a len cap) ls ∧ Sized ls := by
  obtain ⟨fuel, hf⟩ := h
  rcases open_slice Tryd.underlying22 hf with ⟨hcs, _⟩ | ⟨x, l, c, m, n, D, Pl, hcs, _, hl, hm, hmm, _, hel⟩
  · simp [Value.cells] at hcs
    obtain ⟨rfl, rfl, rfl⟩ := hcs
    exact ⟨[], LabsAt.nil (Nat.zero_le _), fun i hi => absurd hi (Nat.not_lt_zero _)⟩
  · simp [Value.cells] at hcs
    obtain ⟨rfl, rfl, rfl⟩ := hcs
    simp at hmm
    obtain ⟨b, o, spot⟩ := x
    have hsp : 0 < len → spot = none := fun h0 => by
      obtain ⟨cs, hc, _⟩ := hel 0 (by omega)
      obtain ⟨_, hlen, hcell⟩ := World.cells?_some hc
      rw [cellsLb] at hlen hcell
      have h1 := hcell 0 (by omega)
      have e : ((⟨b, o, spot⟩ : Addr).add (0 * 2)).add 0 = ⟨b, o, spot⟩ := by simp [Addr.add]
      rw [e, List.getElem?_eq_getElem (by omega)] at h1
      exact World.cell?_spot h1
    have key : ∀ i, i < len → ∃ l : Lb, w.cell? ⟨b, o + i * 2, none⟩ = some (.string l.1) ∧ w.cell? ⟨b, o + i * 2 + 1, none⟩ = some (.string l.2) ∧ l.1.size ≤ maxLen ∧ l.2.size ≤ maxLen := fun i hi => by
      have hs := hsp (by omega)
      subst hs
      obtain ⟨cs, hc, ht⟩ := hel i (by omega)
      obtain ⟨_, hlen, hcell⟩ := World.cells?_some hc
      rw [cellsLb] at hlen hcell
      refine label_came hlen (fun j hj => ?_) ht
      have := hcell j hj
      rw [add_plain, add_plain] at this
      exact this
    obtain ⟨f, hf'⟩ := choose_lt key
    have hfl : ((List.range len).map f).length = len := by simp
    refine ⟨(List.range len).map f, ⟨some ⟨b, o, spot⟩, cap, by rw [hfl], ⟨by omega, hm⟩, fun k hk => ?_⟩, fun k hk => ?_⟩
    · have hk' : k < len := by omega
      have e : ((List.range len).map f)[k] = f k := by simp
      obtain ⟨h1, h2, _, _⟩ := hf' k hk'
      rw [e, hsp (by omega)]
      exact ⟨b, o, rfl, World.block_lt_of_cell? w _ h1, h1, h2⟩
    · have hk' : k < len := by omega
      have e : ((List.range len).map f)[k] = f k := by simp
      obtain ⟨_, _, h3, h4⟩ := hf' k hk'
      rw [e]
      exact ⟨h3, h4⟩
end

end Go.Proofs.YtlfcnekmdojabaaDoor
