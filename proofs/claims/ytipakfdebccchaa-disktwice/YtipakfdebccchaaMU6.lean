/- For every slice of operations and every two slices of cuts DiskTwice returns true and leaves its arguments as they were: a crash behind a crash loses nothing more. No condition. -/
import Derived.Test.YtipakfdebccchaaRows
import Derived.Test.YtipakfdebccchaaMU5
import Derived.Test.YtipakfdebccchaaMU1
namespace Go.Proofs.Ytipakfdebccchaa
open Go.ChangeShapes Go.WideShapes Go.ChangeAt Go.RowKit

theorem ownTwice : ownKnob Try.prog.godebug = none := by kernel_rfl
theorem laidTwice : laidOutB Try.prog = true := by kernel_rfl

set_option maxRecDepth 100000 in
theorem twice_lifted (os : Os) (started : os.Started) (H : Type) (enc : TypeId × Value → H) :
    ReturnsInHanded {} Try.checked os 4 .any (Rows.diskTwiceSpec.pre6 enc Try.prog Try.f4 Rows.diskTwiceRow.domain false) (Rows.diskTwiceSpec.post enc Try.prog Try.f4 false true false false) := by
  refine returnsInHanded_of_change_sized (C := Try.checked) ownTwice started (by kernel_rfl) Try.func4
    (ChangeSpec.witness6 (enc := enc) (C := Try.checked) false ⟨#[], #[.slice none 0 0, .slice none 0 0, .slice none 0 0], []⟩ 8 (by kernel_rfl) (by kernel_rfl) (by kernel_rfl) (by kernel_rfl)) ?_
  intro W base args ds gs before hval0 hW _ hz _
  have hval : ∀ (j : Nat) t v, Try.f4.params[j]? = some t → args[j]? = some v → Value.okWide Try.prog W .any base t v := hval0
  have hW' := hW
  obtain ⟨p, q, hA0, hV, rfl, _, _⟩ := hW
  have hA : DataW.TrodAll enc Try.prog W 0 (fun _ => true) true Try.f4.params.toList args.toList ds p := hA0
  have hz0 : ∀ d1, ds[0]? = some d1 → ∀ q ∈ d1.weights Try.prog 22, q ≤ reachBytes := fun d1 hd q hq => by
    have h1 := List.all_eq_true.1 hz q (DataW.weights_mem_each (j := 0) (t := 22) (d := d1) (by kernel_rfl) (by rw [List.getElem?_append_left (List.getElem?_eq_some_iff.1 hd).1]; exact hd) q hq)
    simpa using h1
  have hz1 : ∀ d1, ds[1]? = some d1 → ∀ q ∈ d1.weights Try.prog 32, q ≤ reachBytes := fun d1 hd q hq => by
    have h1 := List.all_eq_true.1 hz q (DataW.weights_mem_each (j := 1) (t := 32) (d := d1) (by kernel_rfl) (by rw [List.getElem?_append_left (List.getElem?_eq_some_iff.1 hd).1]; exact hd) q hq)
    simpa using h1
  have hz2 : ∀ d1, ds[2]? = some d1 → ∀ q ∈ d1.weights Try.prog 32, q ≤ reachBytes := fun d1 hd q hq => by
    have h1 := List.all_eq_true.1 hz q (DataW.weights_mem_each (j := 2) (t := 32) (d := d1) (by kernel_rfl) (by rw [List.getElem?_append_left (List.getElem?_eq_some_iff.1 hd).1]; exact hd) q hq)
    simpa using h1
  rw [Try.params4] at hA hval
  obtain ⟨v0, vs0, d0, ds0, p0, q0, hargs0, rfl, rfl, h0, r0⟩ := trodAll_cons hA
  obtain ⟨v1, vs1, d1, ds1, p1, q1, hargs1, rfl, rfl, h1, r1⟩ := trodAll_cons r0
  obtain ⟨v2, vs2, d2, ds2, p2, q2, hargs2, rfl, rfl, h2, r2⟩ := trodAll_cons r1
  obtain ⟨rfl, rfl, rfl⟩ := trodAll_nil r2
  subst hargs2
  subst hargs1
  obtain rfl : args = #[v0, v1, v2] := by cases args; simp_all
  obtain ⟨rfl, rfl⟩ := trodVars_none hV
  obtain ⟨a0, len, cap, rfl⟩ := okWide_slice Try.underlying22 (hval 0 22 v0 rfl rfl)
  obtain ⟨a1, len1, cap1, rfl⟩ := okWide_slice Try.underlying32 (hval 1 32 v1 rfl rfl)
  obtain ⟨a2, len2, cap2, rfl⟩ := okWide_slice Try.underlying32 (hval 2 32 v2 rfl rfl)
  have hw0 := hz0 d0 rfl
  have hw1 := hz1 d1 rfl
  have hw2 := hz2 d2 rfl
  clear hA0 hval0 hz0 hz1 hz2 hz
  simp only [List.append_nil] at hW'
  have lt0 : ∀ x ∈ p0, x.block < W.heap.size := fun x hx => by simpa using hW'.lt x (by simp [hx])
  have lt1 : ∀ x ∈ p1, x.block < W.heap.size := fun x hx => by simpa using hW'.lt x (by simp [hx])
  have lt2 : ∀ x ∈ p2, x.block < W.heap.size := fun x hx => by simpa using hW'.lt x (by simp [hx])
  have g0 : ∀ (W' : World), Below W.heap.size W W' → DataW.Trod enc Try.prog W' 0 (fun b => decide (b < W.heap.size)) true 22 (.slice a0 len cap) d0 p0 :=
    fun W' hn => Below.trod laidTwice (by kernel_rfl) (of_decide_eq_true (by kernel_rfl)) h0 hn lt0
  have g1 : ∀ (W' : World), Below W.heap.size W W' → DataW.Trod enc Try.prog W' 0 (fun b => decide (b < W.heap.size)) true 32 (.slice a1 len1 cap1) d1 p1 :=
    fun W' hn => Below.trod laidTwice (by kernel_rfl) (of_decide_eq_true (by kernel_rfl)) h1 hn lt1
  have g2 : ∀ (W' : World), Below W.heap.size W W' → DataW.Trod enc Try.prog W' 0 (fun b => decide (b < W.heap.size)) true 32 (.slice a2 len2 cap2) d2 p2 :=
    fun W' hn => Below.trod laidTwice (by kernel_rfl) (of_decide_eq_true (by kernel_rfl)) h2 hn lt2
  have fin : ∀ e W', (e = Ending.returned (.bool true) ∧ Below W.heap.size W W') → ∃ v, e = Ending.returned v ∧ Rows.diskTwiceSpec.post enc Try.checked.prog Try.f4 false true false false W #[.slice a0 len cap, .slice a1 len1 cap1, .slice a2 len2 cap2] v W' := by
    intro e W' ⟨he, hnx⟩
    subst he
    refine ⟨_, rfl, _, _, _, [], p0 ++ (p1 ++ (p2 ++ [])), [], hW', ?_, ?_, rfl, hnx.frame _, fun h => by cases h⟩
    · exact trodAll_mk1 (shut_bool Try.underlying4 true)
    · exact trodAll_cons_mk (g0 _ hnx) (trodAll_cons_mk (g1 _ hnx) (trodAll_cons_mk (g2 _ hnx) trodAll_mk0))
  have hop : ∃ fo : Nat → OpV, ∀ i, i < len → ∃ b off, a0 = some ⟨b, off, none⟩ ∧ b < W.heap.size ∧ OpAt W b (off + i * 7) (fo i) := by
    rcases ops_came h0 hw0 with rfl | ⟨b, o, rfl, hb', fo, hfo⟩
    · exact ⟨fun _ => ⟨0, 0, 0, ByteArray.empty, ByteArray.empty, .slice none 0 0, [], .slice none 0 0, []⟩, fun i hi => absurd hi (Nat.not_lt_zero i)⟩
    · exact ⟨fo, fun i hi => ⟨b, o, rfl, hb', hfo i hi⟩⟩
  obtain ⟨fo, hfo⟩ := hop
  obtain ⟨n1, f1⟩ := h1
  obtain ⟨n2, f2⟩ := h2
  obtain ⟨ca, _, hia, hla⟩ := ints_came (c := .slice a1 len1 cap1) f1 hw1
  obtain ⟨cb, _, hib, hlb⟩ := ints_came (c := .slice a2 len2 cap2) f2 hw2
  exact (twice_any a0 len cap fo W hfo _ _ ca cb hia hla hib hlb).mono fin

theorem diskTwice_holds : Rows.DiskTwiceSaid :=
  OpenClaim.holds_of_wide 4 Try.f4 rfl rfl rfl rfl rfl rfl rfl ⟨rfl, rfl, rfl, rfl, rfl⟩ rfl rfl rfl rfl rfl (by kernel_rfl) Try.func4 (by kernel_rfl)
    (of_decide_eq_true (by kernel_rfl)) (by unfold Func.isWrapper; first | (rw [if_pos (by decide +kernel)]; kernel_rfl) | (rw [if_neg (by decide +kernel)]; exact ⟨rfl, rfl⟩))
    (fun os started H enc _ => twice_lifted os started H enc)

end Go.Proofs.Ytipakfdebccchaa
