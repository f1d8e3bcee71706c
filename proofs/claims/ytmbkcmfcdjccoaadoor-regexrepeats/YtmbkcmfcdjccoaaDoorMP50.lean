/- What a run notes: pure; what an expression's program is. -/
import Derived.Test.YtmbkcmfcdjccoaaDoorMP48
namespace Go.Proofs.YtmbkcmfcdjccoaaDoor
open Go.RowKit Go.Maps

/-- A step notes no greater place than those of its groups. -/
def noteOk (k : Nat) : Stp → Prop
  | .note j => j < 2 * (k + 1)
  | _ => True
def AllN (k : Nat) (l : List Stp) : Prop := ∀ t ∈ l, noteOk k t
theorem AllN.app {k : Nat} {l m : List Stp} (h1 : AllN k l) (h2 : AllN k m) : AllN k (l ++ m) := fun t ht => (List.mem_append.1 ht).elim (h1 t) (h2 t)
theorem AllN.cons {k : Nat} {t : Stp} {m : List Stp} (h1 : noteOk k t) (h2 : AllN k m) : AllN k (t :: m) := fun x hx => by
  rcases List.mem_cons.1 hx with rfl | hx
  · exact h1
  · exact h2 x hx
theorem AllN.nil {k : Nat} : AllN k [] := fun x hx => by cases hx
theorem note_fork {k a b : Nat} {lz : Bool} : noteOk k (forkS lz a b) := by unfold forkS; split <;> trivial
theorem copiesS_note {k : Nat} {f : Nat → List Stp} (hf : ∀ p, AllN k (f p)) : ∀ n p, AllN k (copiesS f n p)
  | 0, p => AllN.nil
  | n + 1, p => by
    unfold copiesS
    exact AllN.app (hf p) (copiesS_note hf n _)
theorem optsS_note {k : Nat} {f : Nat → List Stp} {t : Nat → Stp} (hf : ∀ p, AllN k (f p)) (ht : ∀ p, noteOk k (t p)) : ∀ n p, AllN k (optsS f t n p)
  | 0, p => AllN.nil
  | n + 1, p => by
    rw [optsS]
    exact AllN.cons (ht p) (AllN.app (hf _) (optsS_note hf ht n _))
mutual
theorem emit_note {k : Nat} : ∀ (x : Nd), GrN k x → ∀ p, AllN k (emitN x p)
  | .take l neg, _, p => by unfold emitN; exact AllN.cons trivial AllN.nil
  | .start, _, p => by unfold emitN; exact AllN.cons trivial AllN.nil
  | .stop, _, p => by unfold emitN; exact AllN.cons trivial AllN.nil
  | .row l, h, p => by rw [emitN]; unfold GrN at h; exact emits_note l h p
  | .either a b, h, p => by
    unfold GrN at h
    rw [emitN]
    exact AllN.cons trivial (AllN.app (emit_note a h.1 _) (AllN.cons trivial (emit_note b h.2 _)))
  | .group n a, h, p => by
    unfold GrN at h
    rw [emitN]
    refine AllN.cons ?_ (AllN.app (emit_note a h.2.2 _) (AllN.cons ?_ AllN.nil))
    · show 2 * n < 2 * (k + 1)
      omega
    · show 2 * n + 1 < 2 * (k + 1)
      omega
  | .plus a lz, h, p => by
    unfold GrN at h
    rw [emitN]
    exact AllN.app (emit_note a h _) (AllN.cons note_fork AllN.nil)
  | .times a lo hi lz, h, p => by
    unfold GrN at h
    have hf := emit_note a h
    rw [emitN]
    refine AllN.app (copiesS_note hf lo p) ?_
    unfold tailS
    split
    · exact AllN.cons note_fork (AllN.app (hf _) (AllN.cons trivial AllN.nil))
    · exact optsS_note hf (fun _ => note_fork) _ _
theorem emits_note {k : Nat} : ∀ (l : List Nd), GrsN k l → ∀ p, AllN k (emitsN l p)
  | [], _, p => by unfold emitsN; exact AllN.nil
  | a :: t, h, p => by
    unfold GrsN at h
    rw [emitsN]
    exact AllN.app (emit_note a h.1 _) (emits_note t h.2 _)
end
/-- What a way noted is of the groups. -/
def ThOk (k : Nat) (l : List (Nat × Nat)) : Prop := ∀ q ∈ l, q.1 < 2 * (k + 1)
structure FsOk (k : Nat) (s : FS) : Prop where
  lat : ∀ t ∈ s.lat, ThOk k t.2
  wait : ∀ t ∈ s.wait, ThOk k t.2
  fnd : ∀ l, s.fnd = some l → ThOk k l
theorem fol_ok {P : List Stp} {k : Nat} (hP : AllN k P) (E a : Nat) (nt : Bool) : ∀ (n : Nat) (c : Option Th) (s : FS), (∀ t, c = some t → ThOk k t.2) → FsOk k s → FsOk k (folF P E a nt n c s)
  | 0, c, s, _, hs => by unfold folF; exact hs
  | n + 1, none, s, _, hs => by
    rw [folF]
    cases hl : s.lat.getLast? with
    | none => exact hs
    | some t => exact fol_ok hP E a nt n _ _ (fun t' ht => by injection ht with ht; subst ht; exact hs.lat _ (List.mem_of_getLast? hl)) ⟨fun t' ht => hs.lat t' (List.dropLast_subset _ ht), hs.wait, hs.fnd⟩
  | n + 1, some t, s, hc, hs => by
    have ht := hc t rfl
    have hn : ∀ {P' : Th → Prop} (t' : Th), none = some t' → P' t' := fun t' h => by cases h
    rw [folF]
    by_cases hm : s.met[t.1]? = some (a + 1)
    · rw [if_pos hm]
      exact fol_ok hP E a nt n _ _ (fun t' h => by cases h) hs
    · rw [if_neg hm]
      have h0 : ∀ met, FsOk k { s with met := met } := fun met => ⟨hs.lat, hs.wait, hs.fnd⟩
      cases hp : P[t.1]? with
      | none => exact hs
      | some m =>
        have hmP := hP m (List.mem_of_getElem? hp)
        cases m with
        | take l neg =>
          exact fol_ok hP E a nt n _ _ (fun t' h => by cases h) ⟨hs.lat, fun t' h => (List.mem_append.1 h).elim (hs.wait t') (fun h => by rw [List.mem_singleton.1 h]; exact ht), hs.fnd⟩
        | start =>
          dsimp only
          split
          · exact fol_ok hP E a nt n _ _ (fun t' h => by cases h) (h0 _)
          · exact fol_ok hP E a nt n _ _ (fun t' h => by injection h with h; subst h; exact ht) (h0 _)
        | stop =>
          dsimp only
          split
          · exact fol_ok hP E a nt n _ _ (fun t' h => by cases h) (h0 _)
          · exact fol_ok hP E a nt n _ _ (fun t' h => by injection h with h; subst h; exact ht) (h0 _)
        | note j =>
          refine fol_ok hP E a nt n _ _ (fun t' h => ?_) (h0 _)
          injection h with h
          subst h
          show ThOk k (if nt = true then (j, a) :: t.2 else t.2)
          split
          · intro q hq
            rcases List.mem_cons.1 hq with rfl | hq
            · exact hmP
            · exact ht q hq
          · exact ht
        | fork x y => exact fol_ok hP E a nt n _ _ (fun t' h => by injection h with h; subst h; exact ht) ⟨fun t' h => (List.mem_append.1 h).elim (hs.lat t') (fun h => by rw [List.mem_singleton.1 h]; exact ht), hs.wait, hs.fnd⟩
        | jump x => exact fol_ok hP E a nt n _ _ (fun t' h => by injection h with h; subst h; exact ht) (h0 _)
        | yes =>
          dsimp only
          split
          · exact fol_ok hP E a nt n _ _ (fun t' h => by cases h) (h0 _)
          · exact ⟨hs.lat, hs.wait, fun l h => by injection h with h; subst h; exact ht⟩
theorem sweep_ok {P : List Stp} {k : Nat} (hP : AllN k P) (E a : Nat) (nt : Bool) (c : Nat) : ∀ (ts : List Th) (s : FS), (∀ t ∈ ts, ThOk k t.2) → FsOk k s → FsOk k (sweepF P E a nt c ts s)
  | [], s, _, hs => hs
  | t :: ts, s, ht, hs => by
    rw [sweepF]
    split
    · refine sweep_ok hP E a nt c ts _ (fun t' h => ht t' (List.mem_cons_of_mem _ h)) (fol_ok hP E a nt _ _ _ (fun t' h => by cases h) ⟨fun t' h => ?_, hs.wait, hs.fnd⟩)
      rw [List.mem_singleton.1 h]
      exact ht t (List.mem_cons_self ..)
    · exact sweep_ok hP E a nt c ts s (fun t' h => ht t' (List.mem_cons_of_mem _ h)) hs
theorem loop_ok {P : List Stp} {k : Nat} (hP : AllN k P) (text : ByteArray) (nt : Bool) : ∀ (n a : Nat) (now : List Th) (s : FS), (∀ t ∈ now, ThOk k t.2) → FsOk k s → FsOk k (loopF P text nt n a now s)
  | 0, a, now, s, _, hs => hs
  | n + 1, a, now, s, hn, hs => by
    rw [loopF]
    split
    · have h9 := sweep_ok hP text.size (a + (charR text a).2) nt (charR text a).1 now { s with wait := [] } hn ⟨hs.lat, (fun t h => by cases h), hs.fnd⟩
      exact loop_ok hP text nt n _ _ _ h9.wait h9
    · exact hs
theorem run_ok {P : List Stp} {k : Nat} (hP : AllN k P) (text : ByteArray) (nt : Bool) (l : List (Nat × Nat)) (h : runF P text nt = some l) : ThOk k l := by
  have h0 : FsOk k (folF P text.size 0 nt (3 * P.length + 3) none ⟨List.replicate P.length 0, [(0, [])], [], none⟩) := fol_ok hP _ _ nt _ _ _ (fun t h => by cases h) ⟨(fun t h => by rw [List.mem_singleton.1 h]; intro q hq; cases hq), (fun t h => by cases h), (fun l h => by cases h)⟩
  exact (loop_ok hP text nt (text.size + 1) 0 _ _ h0.wait h0).fnd l h
/-- What is known of a program that was compiled. -/
theorem comp_known {s : ByteArray} {x : Nd} {g : Nat} (h : compR s = .ok x g) : GrN g x ∧ g ≤ 10000 ∧ AllN g (progR x) ∧ (progR x).length ≤ 2000 ∧ 0 < (progR x).length := by
  unfold compR at h
  by_cases hs : 256 < s.size
  · rw [if_pos hs] at h; cases h
  · rw [if_neg hs] at h
    cases hr : readS s with
    | no p => rw [hr] at h; cases h
    | yes y p g' =>
      rw [hr] at h
      have h : (if p < s.size then CmR.no p else if 2000 < sizeN y + 1 then .large else .ok y g') = .ok x g := h
      by_cases hp : p < s.size
      · rw [if_pos hp] at h; cases h
      · rw [if_neg hp] at h
        by_cases hz : 2000 < sizeN y + 1
        · rw [if_pos hz] at h; cases h
        · rw [if_neg hz] at h
          injection h with h1 h2
          subst h1 h2
          have hok := (allOk s (5 * s.size + 2)).either 0 0 (Nat.zero_le _) (Nat.zero_le _)
          have hgr := (allG s (5 * s.size + 2)).either 0 0
          have hr2 : eitherR s (5 * s.size + 2) 0 0 = .yes y p g' := hr
          rw [hr2] at hok hgr
          obtain ⟨o1, o2, o3, o4⟩ := hok
          obtain ⟨-, hgx⟩ := hgr
          have hl := emit_len y o4 (by omega) 0
          have h0 := wf_size y o4
          refine ⟨hgx, by omega, AllN.app (emit_note y hgx 0) (AllN.cons trivial AllN.nil), ?_, ?_⟩
          · unfold progR
            rw [List.length_append, List.length_singleton]
            omega
          · unfold progR
            rw [List.length_append, List.length_singleton]
            omega
end Go.Proofs.YtmbkcmfcdjccoaaDoor
