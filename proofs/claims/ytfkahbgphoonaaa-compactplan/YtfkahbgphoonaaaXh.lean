/- What a lot takes away, and what it becomes: pure. -/
import Derived.Test.YtfkahbgphoonaaaXg
namespace Go.Proofs.Ytfkahbgphoonaaa
open Go.RowKit Go.Shelf Go.Maps Go.Sort

theorem lotF_sub (l : List Mb) : (lotF l).Sublist l := by
  induction l with
  | nil => exact List.Sublist.refl _
  | cons x r ih =>
    unfold lotF
    split
    · exact (List.takeWhile_sublist _).cons_cons x
    · exact ih.cons x
theorem lotF_same (l : List Mb) : ∃ b, ∀ x ∈ lotF l, x.1 = b := by
  induction l with
  | nil => exact ⟨0, fun x hx => by simp [lotF] at hx⟩
  | cons y r ih =>
    unfold lotF
    split
    · refine ⟨y.1, fun x hx => ?_⟩
      rcases List.mem_cons.1 hx with rfl | hx
      · rfl
      · have := List.all_eq_true.1 (List.all_takeWhile (p := fun z : Mb => decide (z.1 = y.1)) (l := r)) x hx
        simpa using this
    · exact ih
theorem lotF_two (l : List Mb) : lotF l = [] ∨ 2 ≤ (lotF l).length := by
  induction l with
  | nil => exact Or.inl rfl
  | cons y r ih =>
    unfold lotF
    split
    · rename_i h
      right; omega
    · exact ih

def nmq (a b : ByteArray) : Bool := a.toList == b.toList
/-- Is the block named? -/
def inF (ns : List ByteArray) (m : Mt) : Bool := ns.any fun n => nmq n m.nm
theorem nmq_self (a : ByteArray) : nmq a a = true := by unfold nmq; simp
theorem inF_mem {ns : List ByteArray} {m : Mt} (h : m.nm ∈ ns) : inF ns m = true := List.any_eq_true.2 ⟨_, h, nmq_self _⟩

theorem one_count (level newest span : Int) (hs : 1 ≤ span) (ns : List ByteArray) (b : Int) (m : Mt) : (oneF level newest span m).countP (fun x => decide (x.1 = b) && inF ns x.2) ≤ if inF ns m = true then 1 else 0 := by
  have e : inF ns (clM m) = inF ns m := rfl
  unfold oneF spF spG
  generalize b0F span m = B
  cases h : inF ns m
  · split
    · split
      · split <;> simp [e, h]
      · simp
    · simp
  · split
    · split
      · split
        · have h9 : ¬ (B = b ∧ B + span = b) := by omega
          by_cases h1 : B = b
          · have h2 : ¬ B + span = b := fun h2 => h9 ⟨h1, h2⟩
            simp [List.countP_cons, e, h, h1]
            omega
          · by_cases h2 : B + span = b <;> simp [e, h, h1, h2]
        · by_cases h1 : B = b <;> simp [e, h, h1]
      · simp
    · simp
theorem mbs_count (level newest span : Int) (hs : 1 ≤ span) (ns : List ByteArray) (b : Int) (L : List Mt) : (mbsF level newest span L).countP (fun x => decide (x.1 = b) && inF ns x.2) ≤ L.countP (inF ns) := by
  induction L with
  | nil => simp [mbsF]
  | cons m r ih =>
    have h1 := one_count level newest span hs ns b m
    unfold mbsF at *
    rw [List.flatMap_cons, List.countP_append, List.countP_cons]
    omega
/-- So many members, so many blocks that are named. -/
theorem lot_count (level newest span : Int) (hs : 1 ≤ span) (L : List Mt) (ls : List Mb) (hp : ls.Perm (mbsF level newest span L)) : (lotF ls).length ≤ L.countP (inF ((lotF ls).map (·.2.nm))) := by
  obtain ⟨b, hb⟩ := lotF_same ls
  have h1 := mbs_count level newest span hs ((lotF ls).map (·.2.nm)) b L
  have h2 := (lotF_sub ls).countP_le (p := fun x => decide (x.1 = b) && inF ((lotF ls).map (·.2.nm)) x.2)
  have h3 := hp.countP_eq (fun x => decide (x.1 = b) && inF ((lotF ls).map (·.2.nm)) x.2)
  have h4 : (lotF ls).countP (fun x => decide (x.1 = b) && inF ((lotF ls).map (·.2.nm)) x.2) = (lotF ls).length := by
    rw [List.countP_eq_length]
    intro x hx
    have h5 : inF ((lotF ls).map (·.2.nm)) x.2 = true := inF_mem (List.mem_map.2 ⟨x, hx, rfl⟩)
    simp [hb x hx, h5]
  omega

/-- The joined block, block by block. -/
def jStep (ns : List ByteArray) (s : Nat × Mt) (m : Mt) : Nat × Mt := if inF ns m = true then (s.1 + 1, ⟨(if s.1 = 0 then m else s.2).nm, min (if s.1 = 0 then m else s.2).lo m.lo, max (if s.1 = 0 then m else s.2).hi m.hi, max (if s.1 = 0 then m else s.2).lv m.lv⟩) else s
def joinF (ns : List ByteArray) (L : List Mt) : Nat × Mt := L.foldl (jStep ns) (0, ⟨ByteArray.empty, 0, 0, 0⟩)
theorem jStep_1 (ns : List ByteArray) (s : Nat × Mt) (m : Mt) : (jStep ns s m).1 = s.1 + if inF ns m = true then 1 else 0 := by
  unfold jStep
  split <;> simp
theorem joinF_snoc (ns : List ByteArray) (L : List Mt) (m : Mt) : joinF ns (L ++ [m]) = jStep ns (joinF ns L) m := by simp [joinF]
theorem foldj_1 (ns : List ByteArray) (L : List Mt) (s : Nat × Mt) : (L.foldl (jStep ns) s).1 = s.1 + L.countP (inF ns) := by
  induction L generalizing s with
  | nil => simp
  | cons m r ih => rw [List.foldl_cons, ih, jStep_1, List.countP_cons]; omega
theorem joinF_1 (ns : List ByteArray) (L : List Mt) : (joinF ns L).1 = L.countP (inF ns) := by unfold joinF; rw [foldj_1]; simp
theorem jStep_mono (ns : List ByteArray) (s : Nat × Mt) (m : Mt) (hs : 0 < s.1) : (jStep ns s m).2.lo ≤ s.2.lo ∧ s.2.hi ≤ (jStep ns s m).2.hi ∧ 0 < (jStep ns s m).1 := by
  unfold jStep
  have h0 : ¬ s.1 = 0 := by omega
  split
  · simp only
    exact ⟨by omega, by omega, by omega⟩
  · exact ⟨Int.le_refl _, Int.le_refl _, hs⟩
theorem foldj_mono (ns : List ByteArray) (L : List Mt) (s : Nat × Mt) (hs : 0 < s.1) : (L.foldl (jStep ns) s).2.lo ≤ s.2.lo ∧ s.2.hi ≤ (L.foldl (jStep ns) s).2.hi := by
  induction L generalizing s with
  | nil => exact ⟨Int.le_refl _, Int.le_refl _⟩
  | cons m r ih =>
    have h1 := jStep_mono ns s m hs
    have h2 := ih (jStep ns s m) h1.2.2
    rw [List.foldl_cons]
    omega
theorem foldj_wide (ns : List ByteArray) (L : List Mt) (s : Nat × Mt) : ∀ m ∈ L, inF ns m = true → (L.foldl (jStep ns) s).2.lo ≤ m.lo ∧ m.hi ≤ (L.foldl (jStep ns) s).2.hi := by
  induction L generalizing s with
  | nil => intro m hm; simp at hm
  | cons x r ih =>
    intro m hm hin
    rw [List.foldl_cons]
    rcases List.mem_cons.1 hm with rfl | hm
    · have h1 : (jStep ns s m).2.lo ≤ m.lo ∧ m.hi ≤ (jStep ns s m).2.hi ∧ 0 < (jStep ns s m).1 := by
        unfold jStep
        rw [if_pos hin]
        exact ⟨by simp only []; omega, by simp only []; omega, by simp only []; omega⟩
      have h2 := foldj_mono ns r (jStep ns s m) h1.2.2
      omega
    · exact ih _ m hm hin
theorem joinF_wide (ns : List ByteArray) (L : List Mt) : ∀ m ∈ L, inF ns m = true → (joinF ns L).2.lo ≤ m.lo ∧ m.hi ≤ (joinF ns L).2.hi := foldj_wide ns L _
theorem rest_count (ns : List ByteArray) (L : List Mt) : (L.filter fun m => !inF ns m).length + L.countP (inF ns) = L.length := by
  induction L with
  | nil => rfl
  | cons m r ih =>
    cases h : inF ns m <;> simp [h] at * <;> omega

end Go.Proofs.Ytfkahbgphoonaaa
