/- What comes in: a first time, a step, how many, a value. -/
import Derived.Test.YtkmclgbiedbfpaaDoorKq
namespace Go.Proofs.YtkmclgbiedbfpaaDoor
open Go.ChangeShapes Go.WideShapes Go.ChangeAt Go.RowKit

section
variable {H : Type} {enc : TypeId × Value → H} {w : World}
set_option maxRecDepth 100000 in
theorem steady_came {cs : Array Value} {d : DataW H} {p : List MemPlace} (hl : cs.size = 4) (h : DataW.Trod enc Tryd.prog w 0 (fun _ => true) true 55 (.agg cs) d p) :
    ∃ (T S M : Int) (v : UInt64), cs = #[.int .i64 T, .int .i64 S, .int .i64 M, .float .f64 v.toNat] ∧ (-9223372036854775808 ≤ T ∧ T ≤ 9223372036854775807) ∧ (-9223372036854775808 ≤ S ∧ S ≤ 9223372036854775807) ∧ (-9223372036854775808 ≤ M ∧ M ≤ 9223372036854775807) := by
  obtain ⟨fuel, hf⟩ := h
  obtain ⟨cl⟩ := cs
  obtain ⟨xs, m, _, _, _, hxl, hf⟩ := DataW.trod_struct Tryd.underlying55 hf
  have hr : ∀ z : Int, (Lit.int .i64 z).wf = true → -9223372036854775808 ≤ z ∧ z ≤ 9223372036854775807 := fun z hz => by
    have e1 : IntKind.i64.min = -9223372036854775808 := by decide
    have e2 : IntKind.i64.max = 9223372036854775807 := by decide
    simp [Lit.wf, e1, e2] at hz
    exact hz
  match cl, hl with
  | [v0, v1, v2, v3], _ =>
    match xs, hxl with
    | [y0, y1, y2, y3], _ =>
      have t0 := hf 0 _ rfl
      have t1 := hf 1 _ rfl
      have t2 := hf 2 _ rfl
      have t3 := hf 3 _ rfl
      simp [cells3, cellsF, Value.cells] at t0 t1 t2 t3
      obtain ⟨z0, e0, _, w0⟩ := DataW.trod_int Tryd.underlying3 t0
      obtain ⟨z1, e1, _, w1⟩ := DataW.trod_int Tryd.underlying3 t1
      obtain ⟨z2, e2, _, w2⟩ := DataW.trod_int Tryd.underlying3 t2
      obtain ⟨z3, e3, w3⟩ := trod_f t3
      simp at e0 e1 e2 e3
      subst e0 e1 e2 e3
      have hz := wf_f w3
      refine ⟨z0, z1, z2, UInt64.ofNat z3, ?_, hr _ w0, hr _ w1, hr _ w2⟩
      have : (UInt64.ofNat z3).toNat = z3 := by rw [UInt64.toNat_ofNat']; exact Nat.mod_eq_of_lt hz
      rw [this]
end

end Go.Proofs.YtkmclgbiedbfpaaDoor
