/- For every capacity and every slice of operations DiskExact returns true and leaves its arguments as they were: the disk and the document's say the same at every step. No condition. -/
import Derived.Test.YtipakfdebccchaaRows
import Derived.Test.YtipakfdebccchaaMJ8
namespace Go.Proofs.Ytipakfdebccchaa
open Go.ChangeShapes Go.WideShapes Go.ChangeAt Go.RowKit

theorem ownExact : ownKnob Try.prog.godebug = none := by kernel_rfl
theorem laidExact : laidOutB Try.prog = true := by kernel_rfl

set_option maxRecDepth 100000 in
theorem exact_lifted (os : Os) (started : os.Started) (H : Type) (enc : TypeId × Value → H) :
    ReturnsInHanded {} Try.checked os 3 .any (Rows.diskExactSpec.pre6 enc Try.prog Try.f3 Rows.diskExactRow.domain false) (Rows.diskExactSpec.post enc Try.prog Try.f3 false true false false) := by
  refine returnsInHanded_of_change_sized (C := Try.checked) ownExact started (by kernel_rfl) Try.func3
    (ChangeSpec.witness6 (enc := enc) (C := Try.checked) false ⟨#[], #[.int .i64 0, .slice none 0 0], []⟩ 8 (by kernel_rfl) (by kernel_rfl) (by kernel_rfl) (by kernel_rfl)) ?_
  intro W base args ds gs before hval0 hW _ hz _
  have hval : ∀ (j : Nat) t v, Try.f3.params[j]? = some t → args[j]? = some v → Value.okWide Try.prog W .any base t v := hval0
  have hW' := hW
  obtain ⟨p, q, hA0, hV, rfl, _, _⟩ := hW
  have hA : DataW.TrodAll enc Try.prog W 0 (fun _ => true) true Try.f3.params.toList args.toList ds p := hA0
  have hz1 : ∀ d1, ds[1]? = some d1 → ∀ q ∈ d1.weights Try.prog 22, q ≤ reachBytes := fun d1 hd q hq => by
    have h1 := List.all_eq_true.1 hz q (DataW.weights_mem_each (j := 1) (t := 22) (d := d1) (by kernel_rfl) (by rw [List.getElem?_append_left (List.getElem?_eq_some_iff.1 hd).1]; exact hd) q hq)
    simpa using h1
  rw [Try.params3] at hA hval
  obtain ⟨v0, vs0, d0, ds0, p0, q0, hargs0, rfl, rfl, h0, r0⟩ := trodAll_cons hA
  obtain ⟨v1, vs1, d1, ds1, p1, q1, hargs1, rfl, rfl, h1, r1⟩ := trodAll_cons r0
  obtain ⟨rfl, rfl, rfl⟩ := trodAll_nil r1
  subst hargs1
  obtain rfl : args = #[v0, v1] := by cases args; simp_all
  obtain ⟨rfl, rfl⟩ := trodVars_none hV
  obtain ⟨n, rfl, rfl, rfl, hn⟩ := open_int Try.underlying3 (hval 0 3 v0 rfl rfl) h0
  obtain ⟨a0, len, cap, rfl⟩ := okWide_slice Try.underlying22 (hval 1 22 v1 rfl rfl)
  have hw := hz1 d1 rfl
  clear hA0 hval0 hz1 hz
  simp only [List.append_nil, List.nil_append] at hW'
  have hlt : ∀ x ∈ p1, x.block < W.heap.size := fun x hx => by simpa using hW'.lt x (by simp [hx])
  have hargs : ∀ (W' : World), Below W.heap.size W W' → DataW.Trod enc Try.prog W' 0 (fun b => decide (b < W.heap.size)) true 22 (.slice a0 len cap) d1 p1 :=
    fun W' hn => Below.trod laidExact (by kernel_rfl) (of_decide_eq_true (by kernel_rfl)) h1 hn hlt
  have fin : ∀ e W', (e = Ending.returned (.bool true) ∧ Below W.heap.size W W') → ∃ v, e = Ending.returned v ∧ Rows.diskExactSpec.post enc Try.checked.prog Try.f3 false true false false W #[.int .i64 n, .slice a0 len cap] v W' := by
    intro e W' ⟨he, hnx⟩
    subst he
    refine ⟨_, rfl, _, _, _, [], [] ++ (p1 ++ []), [], hW', ?_, ?_, rfl, hnx.frame _, fun h => by cases h⟩
    · exact trodAll_mk1 (shut_bool Try.underlying4 true)
    · exact trodAll_cons_mk (shut_int Try.underlying3 hn) (trodAll_cons_mk (hargs _ hnx) trodAll_mk0)
  have hb := (bounds_i64 hn).2
  rcases ops_came h1 hw with rfl | ⟨b, o, rfl, hb', fo, hfo⟩
  · exact (exact_zero n hb a0 cap W).mono fin
  · exact (exact_some n hb b o len cap fo W hb' hfo).mono fin

theorem diskExact_holds : Rows.DiskExactSaid :=
  OpenClaim.holds_of_wide 3 Try.f3 rfl rfl rfl rfl rfl rfl rfl ⟨rfl, rfl, rfl, rfl, rfl⟩ rfl rfl rfl rfl rfl (by kernel_rfl) Try.func3 (by kernel_rfl)
    (of_decide_eq_true (by kernel_rfl)) (by unfold Func.isWrapper; first | (rw [if_pos (by decide +kernel)]; kernel_rfl) | (rw [if_neg (by decide +kernel)]; exact ⟨rfl, rfl⟩))
    (fun os started H enc _ => exact_lifted os started H enc)

end Go.Proofs.Ytipakfdebccchaa
