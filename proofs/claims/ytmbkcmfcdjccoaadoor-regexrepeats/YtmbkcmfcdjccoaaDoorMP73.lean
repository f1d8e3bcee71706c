/- A text is meant just if the part takes it whole: pure. -/
import Derived.Test.YtmbkcmfcdjccoaaDoorMP72
namespace Go.Proofs.YtmbkcmfcdjccoaaDoor
open Go.RowKit Go.Maps

section
variable {P : List Stp} {x : ByteArray}
/-- What is met is met through a step that takes a character, or yes has been found. -/
theorem clo_take {a : Nat} {V W : Nat → Prop} {F : Prop} (h : ∀ i, V i → CloP P x.size a V W F i) : ∀ (k i : Nat), V i → AccK P x k i a → F ∨ ∃ j k l neg, W j ∧ P[j]? = some (.take l neg) ∧ AccK P x k j a
  | 0, _, _, hk => hk.elim
  | k + 1, i, hi, hk => by
    have h1 := h i hi
    have hk0 := hk
    unfold CloP at h1
    rw [AccK] at hk
    cases hp : P[i]? with
    | none => rw [hp] at h1; exact h1.elim
    | some m =>
      rw [hp] at h1 hk
      cases m with
      | take l neg => exact Or.inr ⟨i, k + 1, l, neg, h1, hp, hk0⟩
      | start => exact clo_take h k _ (h1 hk.1) hk.2
      | stop => exact clo_take h k _ (h1 hk.1) hk.2
      | note n => exact clo_take h k _ h1 hk
      | fork p q => exact hk.elim (clo_take h k _ h1.1) (clo_take h k _ h1.2)
      | jump p => exact clo_take h k _ h1 hk
      | yes => exact Or.inl (h1 hk)
/-- The ways at a place, all of them. -/
structure WayI (P : List Stp) (E a : Nat) (G : Nat → Prop) (A : Prop) (s : FS) : Prop where
  len : s.met.length = P.length
  low : ∀ (i m : Nat), s.met[i]? = some m → m ≤ a + 1
  wt : ∀ t ∈ s.wait, G t.1 ∧ t.1 < P.length
  fg : s.fnd.isSome = true → A
  done : s.fnd.isSome = true ∨ ∀ i, MetS s.met a i → CloP P E a (MetS s.met a) (fun j => j ∈ s.wait.map Prod.fst) (s.fnd.isSome = true) i
theorem take_of {i c : Nat} (h : takesS P i c = true) : ∃ l neg, P[i]? = some (.take l neg) ∧ (memS l c != neg) = true := by
  unfold takesS at h
  split at h
  · rename_i l neg hp
    exact ⟨l, neg, hp, h⟩
  · cases h
theorem sweep_inv {E a c : Nat} {G : Nat → Prop} {A : Prop} (hP : ClosedS P) (nt : Bool)
    (hG : ∀ i, G i → match P[i]? with
      | some .start => a = 0 → G (i + 1)
      | some .stop => ¬ a < E → G (i + 1)
      | some (.note _) => G (i + 1)
      | some (.fork p q) => G p ∧ G q
      | some (.jump p) => G p
      | some .yes => ¬ a < E → A
      | _ => True) : ∀ (ts : List Th) (s : FS), WayI P E a G A s → (∀ t ∈ ts, takesS P t.1 c = true → G (t.1 + 1)) →
    WayI P E a G A (sweepF P E a nt c ts s) ∧ (s.fnd.isSome = true → (sweepF P E a nt c ts s).fnd.isSome = true) ∧ (∀ i, MetS s.met a i → MetS (sweepF P E a nt c ts s).met a i) ∧
      ∀ t ∈ ts, takesS P t.1 c = true → (sweepF P E a nt c ts s).fnd.isSome = true ∨ MetS (sweepF P E a nt c ts s).met a (t.1 + 1)
  | [], s, h, _ => by
    rw [sweepF]
    exact ⟨h, id, fun _ h => h, fun t ht => by cases ht⟩
  | t :: ts, s, h, hg => by
    rw [sweepF]
    by_cases ht : takesS P t.1 c = true
    · rw [if_pos ht]
      obtain ⟨l, neg, hp, -⟩ := take_of ht
      have hlt := hP.step hp (by simp)
      have hI : FolI P E a G A none { s with lat := [(t.1 + 1, t.2)] } := ⟨h.len, h.low, fun i hi => by
        have hi : i ∈ [t.1 + 1] := hi
        rw [List.mem_singleton.1 hi]
        exact ⟨hlt, hg t (by simp) ht⟩, fun i hi => by
        rcases h.done with h1 | h1
        · exact Or.inl h1
        · exact Or.inr ((h1 i hi).mono (fun j hj => Or.inl hj) (fun _ hj => hj) id), h.wt, h.fg⟩
      have hu := unm_le a s.met
      have hE := fol_inv hP nt hG (3 * P.length + 3) none _ hI (by
        have hl := h.len
        unfold leftS
        show 3 * unmS a s.met + 2 * 1 + 0 ≤ _
        omega)
      generalize folF P E a nt (3 * P.length + 3) none { s with lat := [(t.1 + 1, t.2)] } = R at *
      have hW : WayI P E a G A R := ⟨hE.len, hE.low, hE.wt, hE.fg, hE.done.imp id And.left⟩
      obtain ⟨k1, k2, k3, k4⟩ := sweep_inv hP nt hG ts R hW (fun u hu => hg u (by simp [hu]))
      refine ⟨k1, fun h => k2 (hE.fmono h), fun i hi => k3 i (hE.mono i hi), fun u hu hut => ?_⟩
      rcases List.mem_cons.1 hu with rfl | hu
      · rcases hE.done with h1 | ⟨-, h1⟩
        · exact Or.inl (k2 h1)
        · exact Or.inr (k3 _ (h1 _ (show u.1 + 1 ∈ [u.1 + 1] by simp)))
      · exact k4 u hu hut
    · rw [if_neg ht]
      obtain ⟨k1, k2, k3, k4⟩ := sweep_inv hP nt hG ts s h (fun u hu => hg u (by simp [hu]))
      refine ⟨k1, k2, k3, fun u hu hut => ?_⟩
      rcases List.mem_cons.1 hu with rfl | hu
      · exact absurd hut ht
      · exact k4 u hu hut
/-- Yes is met from the first step on. -/
def AccA (P : List Stp) (x : ByteArray) : Prop := ∃ k, AccK P x k 0 0
/-- Were yes met from here, it would be met from the first step on. -/
def GoA (P : List Stp) (x : ByteArray) (a i : Nat) : Prop := (∃ k, AccK P x k i a) → AccA P x
theorem goA (a : Nat) : ∀ i, GoA P x a i → match P[i]? with
      | some .start => a = 0 → GoA P x a (i + 1)
      | some .stop => ¬ a < x.size → GoA P x a (i + 1)
      | some (.note _) => GoA P x a (i + 1)
      | some (.fork p q) => GoA P x a p ∧ GoA P x a q
      | some (.jump p) => GoA P x a p
      | some .yes => ¬ a < x.size → AccA P x
      | _ => True := fun i h => by
  cases hp : P[i]? with
  | none => trivial
  | some m =>
    cases m with
    | take l neg => trivial
    | start => exact fun ha ⟨k, hk⟩ => h ⟨k + 1, by rw [AccK, hp]; exact ⟨ha, hk⟩⟩
    | stop => exact fun ha ⟨k, hk⟩ => h ⟨k + 1, by rw [AccK, hp]; exact ⟨ha, hk⟩⟩
    | note n => exact fun ⟨k, hk⟩ => h ⟨k + 1, by rw [AccK, hp]; exact hk⟩
    | fork p q => exact ⟨fun ⟨k, hk⟩ => h ⟨k + 1, by rw [AccK, hp]; exact Or.inl hk⟩, fun ⟨k, hk⟩ => h ⟨k + 1, by rw [AccK, hp]; exact Or.inr hk⟩⟩
    | jump p => exact fun ⟨k, hk⟩ => h ⟨k + 1, by rw [AccK, hp]; exact hk⟩
    | yes => exact fun ha => h ⟨1, by rw [AccK, hp]; exact ha⟩
/-- The ways at a place, and that no way is missing. -/
structure LopI (P : List Stp) (x : ByteArray) (a : Nat) (s : FS) : Prop where
  way : WayI P x.size a (GoA P x a) (AccA P x) s
  le : a ≤ x.size
  cmp : AccA P x → s.fnd.isSome = true ∨ ∃ j k l neg, j ∈ s.wait.map Prod.fst ∧ P[j]? = some (.take l neg) ∧ AccK P x k j a
theorem loop_inv (hP : ClosedS P) (nt : Bool) : ∀ (n a : Nat) (s : FS), LopI P x a s → x.size + 1 ≤ n + a → ((loopF P x nt n a s.wait s).fnd.isSome = true ↔ AccA P x)
  | 0, a, s, h, hn => by
    have := h.le
    omega
  | n + 1, a, s, h, hn => by
    rw [loopF]
    by_cases hgo : a < x.size ∧ s.wait ≠ []
    · rw [if_pos hgo]
      obtain ⟨k1, k2, k3⟩ := charR_ok hgo.1
      obtain ⟨c, hc⟩ : ∃ c, c = (charR x a).1 := ⟨_, rfl⟩
      obtain ⟨m, hm⟩ : ∃ m, m = (charR x a).2 := ⟨_, rfl⟩
      rw [← hc, ← hm]
      rw [← hm] at k1 k2
      have hW : WayI P x.size (a + m) (GoA P x (a + m)) (AccA P x) { s with wait := [] } := ⟨h.way.len, fun i q hq => by
        have := h.way.low i q hq
        omega, fun t ht => (by cases ht), h.way.fg, Or.inr fun i hi => by
        have h9 : s.met[i]? = some (a + m + 1) := hi
        have := h.way.low i _ h9
        omega⟩
      have hS := sweep_inv (c := c) hP nt (goA (a + m)) s.wait _ hW (fun t ht htk => by
        obtain ⟨l, neg, hp, ht2⟩ := take_of htk
        rintro ⟨k, hk⟩
        refine (h.way.wt t ht).1 ⟨k + 1, ?_⟩
        rw [AccK, hp]
        exact ⟨hgo.1, by rw [← hc]; exact ht2, by rw [← hm]; exact hk⟩)
      obtain ⟨s1, s2, s3, s4⟩ := hS
      generalize sweepF P x.size (a + m) nt c s.wait { s with wait := [] } = R at *
      refine loop_inv hP nt n (a + m) R ⟨s1, by omega, fun hA => ?_⟩ (by omega)
      rcases h.cmp hA with h1 | ⟨j, k, l, neg, hj, hp, hk⟩
      · exact Or.inl (s2 h1)
      · obtain ⟨t, ht, rfl⟩ := List.mem_map.1 hj
        obtain ⟨i, rfl⟩ := acc_pos hk
        rw [AccK, hp] at hk
        obtain ⟨-, e1, e2⟩ := hk
        rw [← hc] at e1
        rw [← hm] at e2
        have htk : takesS P t.1 c = true := by
          unfold takesS
          rw [hp]
          exact e1
        rcases s4 t ht htk with h2 | h2
        · exact Or.inl h2
        · rcases s1.done with h3 | h3
          · exact Or.inl h3
          · exact clo_take h3 i _ h2 e2
    · rw [if_neg hgo]
      refine ⟨h.way.fg, fun hA => (h.cmp hA).elim id fun ⟨j, k, l, neg, hj, hp, hk⟩ => ?_⟩
      exfalso
      obtain ⟨i, rfl⟩ := acc_pos hk
      rw [AccK, hp] at hk
      exact hgo ⟨hk.1, fun e => by rw [e] at hj; cases hj⟩
theorem run_acc (hP : ClosedS P) (hl : 0 < P.length) (nt : Bool) : (runF P x nt).isSome = true ↔ AccA P x := by
  unfold runF
  have hI : FolI P x.size 0 (GoA P x 0) (AccA P x) none ⟨List.replicate P.length 0, [(0, [])], [], none⟩ := ⟨by simp, fun i m hm => by
    have := List.eq_of_mem_replicate (List.mem_of_getElem? hm)
    omega, fun t ht => by
    rw [List.mem_singleton.1 (show t ∈ [0] from ht)]
    exact ⟨hl, id⟩, fun i hi => by
    have := List.eq_of_mem_replicate (List.mem_of_getElem? hi)
    omega, fun t ht => (by cases ht), fun h => (by cases h)⟩
  have hu := unm_le 0 (List.replicate P.length 0)
  rw [List.length_replicate] at hu
  have hE := fol_inv hP nt (goA 0) (3 * P.length + 3) none _ hI (by
    unfold leftS
    show 3 * unmS 0 (List.replicate P.length 0) + 2 * 1 + 0 ≤ _
    omega)
  dsimp only
  generalize folF P x.size 0 nt (3 * P.length + 3) none ⟨List.replicate P.length 0, [(0, [])], [], none⟩ = R at *
  refine loop_inv hP nt (x.size + 1) 0 R ⟨⟨hE.len, hE.low, hE.wt, hE.fg, hE.done.imp id And.left⟩, Nat.zero_le _, fun ⟨k, hk⟩ => ?_⟩ (by omega)
  rcases hE.done with h1 | ⟨h1, h2⟩
  · exact Or.inl h1
  · exact clo_take h1 k 0 (h2 0 (show 0 ∈ [0] by simp)) hk
end
/-- A part takes a text whole. -/
def meansN (n : Nd) (x : ByteArray) : Prop := ∃ b, mN x n 0 b ∧ ¬ b < x.size
theorem run_means (n : Nd) (x : ByteArray) (nt : Bool) : (runF (progR n) x nt).isSome = true ↔ meansN n x := by
  have hl : (progR n).length = (emitN n 0).length + 1 := by simp [progR]
  have hc : CodeAt (progR n) 0 (emitN n 0) := fun i t hi => by
    unfold progR
    rw [Nat.zero_add, List.getElem?_append_left (List.getElem?_eq_some_iff.1 hi).1]
    exact hi
  have hy : (progR n)[0 + (emitN n 0).length]? = some .yes := by
    unfold progR
    rw [Nat.zero_add, List.getElem?_append_right (Nat.le_refl _)]
    simp
  rw [run_acc (closed_prog n) (by omega)]
  constructor
  · rintro ⟨k, hk⟩
    obtain ⟨b, k1, h1, h2, h3⟩ := nd_snd n 0 hc k 0 hk
    obtain ⟨j, rfl⟩ := acc_pos h3
    rw [AccK, hy] at h3
    exact ⟨b, h2, h3⟩
  · rintro ⟨b, h1, h2⟩
    exact nd_cmp n 0 hc 0 b h1 ⟨1, by rw [AccK, hy]; exact h2⟩
end Go.Proofs.YtmbkcmfcdjccoaaDoor
