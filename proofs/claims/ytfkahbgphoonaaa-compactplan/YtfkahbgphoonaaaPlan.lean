/- For all blocks, newest times, horizons and widths CompactPlan returns true and leaves its argument as it was: which blocks go, which become one, and what they become, is what the document says. No condition. -/
import Derived.Test.YtfkahbgphoonaaaRows
import Derived.Test.YtfkahbgphoonaaaTg
import Derived.Test.YtfkahbgphoonaaaXm
import Derived.ProofKit
import Derived.OpenShut
import Derived.ChangeSlices
namespace Go.Proofs.Ytfkahbgphoonaaa
open Go.ChangeShapes Go.WideShapes Go.ChangeAt Go.RowKit

theorem plan_own : ownKnob Try.prog.godebug = none := by kernel_rfl
theorem plan_laidOut : laidOutB Try.prog = true := by kernel_rfl

theorem plan_cellsS : Try.prog.cellsOf 22 = 1 := by kernel_rfl
section
variable {H : Type} {enc : TypeId × Value → H} {w : World}
set_option maxRecDepth 100000 in
theorem plan_came {cs : Array Value} {d : DataW H} {p : List MemPlace} (hl : cs.size = 4) (h : DataW.Trod enc Try.prog w 0 (fun _ => true) true 24 (.agg cs) d p) :
    ∃ (v : Value) (ls : List Mt) (x y z : Int), cs = #[v, .int .i64 x, .int .i64 y, .int .i64 z] ∧ MtAt w v ls ∧ ∀ m ∈ ls, m.nm.size ≤ maxLen := by
  obtain ⟨fuel, hf⟩ := h
  obtain ⟨cl⟩ := cs
  obtain ⟨xs, m, _, _, _, hxl, hf⟩ := DataW.trod_struct Try.underlying24 hf
  match cl, hl with
  | [v0, v1, v2, v3], _ =>
    match xs, hxl with
    | [y0, y1, y2, y3], _ =>
      have t0 := hf 0 _ rfl
      have t1 := hf 1 _ rfl
      have t2 := hf 2 _ rfl
      have t3 := hf 3 _ rfl
      simp [cellsIn, plan_cellsS, Value.cells] at t0 t1 t2 t3
      obtain ⟨z1, e1, _, w1⟩ := DataW.trod_int Try.underlying3 t1
      obtain ⟨z2, e2, _, w2⟩ := DataW.trod_int Try.underlying3 t2
      obtain ⟨z3, e3, _, w3⟩ := DataW.trod_int Try.underlying3 t3
      simp at e1 e2 e3
      subst e1 e2 e3
      have hsl : ∃ a n c, v0 = .slice a n c := by
        rcases Deep.open_slice Try.underlying22 t0 with ⟨hcs, _⟩ | ⟨x, l, c, m, n, D, Pl, hcs, _, _⟩
        · simp at hcs; exact ⟨_, _, _, hcs⟩
        · simp at hcs; exact ⟨_, _, _, hcs⟩
      obtain ⟨a, n, c, rfl⟩ := hsl
      obtain ⟨ls, h1, h2⟩ := metas_came (d := y0.1) (p := y0.2) ⟨_, t0⟩
      exact ⟨_, ls, z1, z2, z3, rfl, h1, h2⟩
end

set_option maxRecDepth 100000 in
theorem plan_lifted (os : Os) (started : os.Started) (H : Type) (enc : TypeId × Value → H) :
    ReturnsInHanded {} Try.checked os 3 .any (Rows.compactPlanSpec.pre6 enc Try.prog Try.f3 Rows.compactPlanRow.domain false) (Rows.compactPlanSpec.post enc Try.prog Try.f3 false true false false) := by
  refine returnsInHanded_of_change (C := Try.checked) plan_own started (by kernel_rfl) Try.func3
    (ChangeSpec.witness6 (enc := enc) (C := Try.checked) false ⟨#[], #[.agg #[.slice none 0 0, .int .i64 0, .int .i64 0, .int .i64 0]], []⟩ 8 (by kernel_rfl) (by kernel_rfl) (by kernel_rfl) (by kernel_rfl)) ?_
  intro W base args ds gs before hval0 hW _ _
  have hval : ∀ (j : Nat) t v, Try.f3.params[j]? = some t → args[j]? = some v → Value.okWide Try.prog W .any base t v := hval0
  have hW' := hW
  obtain ⟨p, q, hA0, hV, rfl, _, _⟩ := hW
  have hA : DataW.TrodAll enc Try.prog W 0 (fun _ => true) true Try.f3.params.toList args.toList ds p := hA0
  rw [Try.params3] at hA hval
  obtain ⟨v0, vs0, d0, ds0, p0, q0, hargs, rfl, rfl, h0, r0⟩ := trodAll_cons hA
  obtain ⟨rfl, rfl, rfl⟩ := trodAll_nil r0
  obtain rfl : args = #[v0] := by cases args; simp_all
  obtain ⟨rfl, rfl⟩ := trodVars_none hV
  obtain ⟨cs0, rfl, hcs0⟩ := okWide_struct Try.underlying24 (hval 0 24 v0 rfl rfl)
  clear hA0 hval0
  simp only [List.append_nil] at hW'
  obtain ⟨v1, ls, x1, x2, x3, rfl, hls, hsz⟩ := plan_came (hcs0.trans (by kernel_rfl)) h0
  have hlt0 : ∀ x ∈ p0, x.block < W.heap.size := fun x hx => by simpa using hW'.lt x (by simp [hx])
  refine (planLaw_any v1 ls x1 x2 x3 W hls hsz).mono ?_
  rintro e W' ⟨rfl, hnx⟩
  have t0 := Below.trod plan_laidOut (by kernel_rfl) (of_decide_eq_true (by kernel_rfl)) h0 hnx hlt0
  refine ⟨_, rfl, _, _, _, [], p0 ++ [], [], hW', ?_, ?_, rfl, hnx.frame _, fun h => by cases h⟩
  · exact trodAll_cons_mk (shut_bool Try.underlying4 true) trodAll_mk0
  · exact trodAll_cons_mk t0 trodAll_mk0

theorem compactPlan_holds : Rows.CompactPlanSaid :=
  OpenClaim.holds_of_wide 3 Try.f3 rfl rfl rfl rfl rfl rfl rfl ⟨rfl, rfl, rfl, rfl, rfl⟩ rfl rfl rfl rfl rfl (by kernel_rfl) Try.func3 (by kernel_rfl)
    (of_decide_eq_true (by kernel_rfl)) (by unfold Func.isWrapper; first | (rw [if_pos (by decide +kernel)]; kernel_rfl) | (rw [if_neg (by decide +kernel)]; exact ⟨rfl, rfl⟩))
    (fun os started H enc _ => plan_lifted os started H enc)

end Go.Proofs.Ytfkahbgphoonaaa
