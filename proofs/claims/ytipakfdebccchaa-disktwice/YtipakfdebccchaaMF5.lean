/- The bounds behind each call; the zone stands aside; Stop, Fault, SetCapacity; the pair. -/
import Derived.Test.YtipakfdebccchaaMF4
import Derived.Test.YtipakfdebccchaaMF2
namespace Go.Proofs.Ytipakfdebccchaa
open Go.RowKit Go.Maps Go.Sort

section
variable {k c : Nat} {a : RA} (h : Inv k c a)
include h
theorem Inv.begun1 : Inv (k + 1) (c + 1) a.begun := h.begun.mono (Nat.le_succ k) (Nat.le_refl _)
theorem Inv.doCreate (name : ByteArray) : Inv (k + 1) (c + 1) (a.doCreate name).2 := by
  unfold RA.doCreate
  split
  · exact h.begun1
  · split
    · exact h.begun1
    · rename_i hr
      split
      · exact h.begun1
      · exact h.begun.create (by simpa using hr)
theorem Inv.doRemove (name : ByteArray) : Inv (k + 1) (c + 1) (a.doRemove name).2 := by
  unfold RA.doRemove
  split
  · exact h.begun1
  · split
    · exact h.begun1
    · rename_i hr
      split
      · exact h.begun1
      · exact h.begun.remove (by simpa using hr)
theorem Inv.doSyncDir : Inv (k + 1) (c + 1) a.doSyncDir.2 := by
  unfold RA.doSyncDir
  split
  · exact h.begun1
  · exact h.begun.syncDir.mono (Nat.le_succ k) (Nat.le_refl _)
theorem Inv.doRename (old name : ByteArray) : Inv (k + 1) (c + 1) (a.doRename old name).2 := by
  unfold RA.doRename
  split
  · exact h.begun1
  · split
    · exact h.begun1
    · rename_i hr
      have hr0 : rn old = true ∧ rn name = true := by simpa using hr
      split
      · exact h.begun1
      · rename_i f hl
        split
        · exact h.begun1
        · exact h.begun.rename hr0.1 hr0.2 hl
theorem Inv.bytesAt (f : Int) : (a.bytesAt f).length ≤ 200 * k ∧ 0 ≤ a.keptAt f ∧ a.keptAt f ≤ (a.bytesAt f).length := by
  unfold RA.bytesAt RA.keptAt
  cases e : a.files[f.toNat]? with
  | none => simp
  | some x => simpa using h.len x (List.mem_of_getElem? e)
theorem Inv.doSync (name : ByteArray) : Inv (k + 1) (c + 1) (a.doSync name).2 := by
  unfold RA.doSync
  split
  · exact h.begun1
  · split
    · exact h.begun1
    · split
      · exact h.begun1
      · rename_i f _
        have := h.bytesAt f
        exact h.begun.files (x := (a.bytesAt f, ((a.bytesAt f).length : Int))) ⟨by show (a.bytesAt f).length ≤ _; omega, by show (0 : Int) ≤ ((a.bytesAt f).length : Int); omega, Int.le_refl _⟩
theorem Inv.addAt (f : Int) (xs : List UInt8) (hx : xs.length ≤ 200) : Inv (k + 1) c (a.addAt f xs) := by
  have := h.bytesAt f
  refine h.files (x := (a.bytesAt f ++ xs, a.keptAt f)) ⟨?_, this.2.1, ?_⟩
  · show (a.bytesAt f ++ xs).length ≤ _
    rw [List.length_append]
    omega
  · show a.keptAt f ≤ ((a.bytesAt f ++ xs).length : Int)
    rw [List.length_append]
    omega
theorem Inv.doAppend (name : ByteArray) (bs : List UInt8) (hb : bs.length ≤ 200) : Inv (k + 1) (c + 1) (a.doAppend name bs).2 := by
  unfold RA.doAppend
  split
  · exact h.begun1
  · split
    · exact h.begun1
    · split
      · exact h.begun1
      · split
        · exact h.begun1
        · split
          · exact h.begun.addAt _ _ hb
          · split
            · exact h.begun.addAt _ _ (by rw [List.length_take]; omega)
            · exact h.begun1
theorem Inv.crash (cs : List Int) : Inv (k + 1) (c + 1) (a.crash cs) := by
  have h' := h.mono (Nat.le_succ k) (Nat.le_succ c)
  refine ⟨h'.cap0, h'.cap1, by show (-1 : Int) ≤ -1; omega, by show (-1 : Int) ≤ _; omega, h'.c0, h'.c1, ?_, Nat.zero_le _, Nat.zero_le _, fun x hx => (by cases hx), crashF_len _ _ _ _ h'.len _, fun p hp => (by cases hp), rfl, fun j _ => ?_⟩
  · show (crashF _ _ _ _ _).length ≤ _
    rw [crashF_length]
    exact h'.nf
  · have e : (a.crash cs).pend.take j = [] := by simp [RA.crash]
    rw [e]
    show TidyD (crashF _ _ _ _ _).length (a.crashDir cs)
    rw [crashF_length]
    exact h.tidy _ (cutN_le _ _ _)
theorem Inv.stop {n : Int} (hn : n ≤ 9223372036854775807) : Inv (k + 1) (c + 1) { a with stop := max n 0 } := by
  have h' := h.mono (Nat.le_succ k) (Nat.le_succ c)
  exact ⟨h'.cap0, h'.cap1, by show (-1 : Int) ≤ max n 0; omega, by show max n 0 ≤ _; omega, h'.c0, h'.c1, h'.nf, h'.np, h'.nq, h'.fq, h'.len, h'.okp, h'.dir, h'.tidy⟩
theorem Inv.capacity {n : Int} (hn : n ≤ 9223372036854775807) : Inv (k + 1) (c + 1) { a with cap := max n 0 } := by
  have h' := h.mono (Nat.le_succ k) (Nat.le_succ c)
  exact ⟨by show (0 : Int) ≤ max n 0; omega, by show max n 0 ≤ _; omega, h'.st0, h'.st1, h'.c0, h'.c1, h'.nf, h'.np, h'.nq, h'.fq, h'.len, h'.okp, h'.dir, h'.tidy⟩
theorem Inv.fault {n kd : Int} (hn : n ≤ 9223372036854775807) : Inv (k + 1) (c + 1) { a with faults := a.faults ++ [(max n 0, kd)] } := by
  have h' := h.mono (Nat.le_succ k) (Nat.le_succ c)
  refine ⟨h'.cap0, h'.cap1, h'.st0, h'.st1, h'.c0, h'.c1, h'.nf, h'.np, ?_, fun x hx => ?_, h'.len, h'.okp, h'.dir, h'.tidy⟩
  · show (a.faults ++ [(max n 0, kd)]).length ≤ k + 1
    have := h.nq
    rw [List.length_append]
    simpa using this
  · rcases List.mem_append.1 hx with hx | hx
    · exact h.fq x hx
    · rw [List.mem_singleton] at hx
      subst hx
      show (0 : Int) ≤ max n 0 ∧ max n 0 ≤ _
      omega
end
theorem Inv.new {n : Int} (hn : n ≤ 9223372036854775807) : Inv 0 0 (RA.new n) := by
  refine ⟨by show (0 : Int) ≤ max n 0; omega, by show max n 0 ≤ _; omega, by show (-1 : Int) ≤ -1; omega, by show (-1 : Int) ≤ _; omega, Int.le_refl _, Int.le_refl _, Nat.le_refl _, Nat.le_refl _, Nat.le_refl _, fun x hx => (by cases hx), fun x hx => (by cases hx), fun x hx => (by cases hx), rfl, fun j _ => ?_⟩
  have e : (RA.new n).pend.take j = [] := by simp [RA.new]
  rw [e]
  exact TidyD.nil _

/-- The same with another zone. -/
def RA.withZ (a : RA) (Z : Nat → Prop) : RA := { a with zone := Z }
section
variable (a : RA) (Z : Nat → Prop)
theorem withZ_create (name : ByteArray) : (a.withZ Z).doCreate name = ((a.doCreate name).1, (a.doCreate name).2.withZ Z) := by
  unfold RA.doCreate
  by_cases h1 : a.err ≠ 0
  · rw [if_pos (show (a.withZ Z).err ≠ 0 from h1), if_pos h1]; rfl
  · rw [if_neg (show ¬ (a.withZ Z).err ≠ 0 from h1), if_neg h1]
    by_cases h2 : rn name = false
    · rw [if_pos h2, if_pos h2]; rfl
    · rw [if_neg h2, if_neg h2]
      by_cases h3 : (lookD a.dir name.data.toList).isSome = true
      · rw [if_pos (show (lookD (a.withZ Z).dir name.data.toList).isSome = true from h3), if_pos h3]; rfl
      · rw [if_neg (show ¬ (lookD (a.withZ Z).dir name.data.toList).isSome = true from h3), if_neg h3]; rfl
theorem withZ_remove (name : ByteArray) : (a.withZ Z).doRemove name = ((a.doRemove name).1, (a.doRemove name).2.withZ Z) := by
  unfold RA.doRemove
  by_cases h1 : a.err ≠ 0
  · rw [if_pos (show (a.withZ Z).err ≠ 0 from h1), if_pos h1]; rfl
  · rw [if_neg (show ¬ (a.withZ Z).err ≠ 0 from h1), if_neg h1]
    by_cases h2 : rn name = false
    · rw [if_pos h2, if_pos h2]; rfl
    · rw [if_neg h2, if_neg h2]
      by_cases h3 : (lookD a.dir name.data.toList).isSome = false
      · rw [if_pos (show (lookD (a.withZ Z).dir name.data.toList).isSome = false from h3), if_pos h3]; rfl
      · rw [if_neg (show ¬ (lookD (a.withZ Z).dir name.data.toList).isSome = false from h3), if_neg h3]; rfl
theorem withZ_syncDir : (a.withZ Z).doSyncDir = (a.doSyncDir.1, a.doSyncDir.2.withZ Z) := by
  unfold RA.doSyncDir
  by_cases h1 : a.err ≠ 0
  · rw [if_pos (show (a.withZ Z).err ≠ 0 from h1), if_pos h1]; rfl
  · rw [if_neg (show ¬ (a.withZ Z).err ≠ 0 from h1), if_neg h1]; rfl
theorem withZ_sync (name : ByteArray) : (a.withZ Z).doSync name = ((a.doSync name).1, (a.doSync name).2.withZ Z) := by
  unfold RA.doSync
  by_cases h1 : a.err ≠ 0
  · rw [if_pos (show (a.withZ Z).err ≠ 0 from h1), if_pos h1]; rfl
  · rw [if_neg (show ¬ (a.withZ Z).err ≠ 0 from h1), if_neg h1]
    by_cases h2 : rn name = false
    · rw [if_pos h2, if_pos h2]; rfl
    · rw [if_neg h2, if_neg h2]
      have e : lookD (a.withZ Z).dir name.data.toList = lookD a.dir name.data.toList := rfl
      rw [e]
      cases lookD a.dir name.data.toList <;> rfl
theorem withZ_rename (old name : ByteArray) : (a.withZ Z).doRename old name = ((a.doRename old name).1, (a.doRename old name).2.withZ Z) := by
  unfold RA.doRename
  by_cases h1 : a.err ≠ 0
  · rw [if_pos (show (a.withZ Z).err ≠ 0 from h1), if_pos h1]; rfl
  · rw [if_neg (show ¬ (a.withZ Z).err ≠ 0 from h1), if_neg h1]
    by_cases h2 : (rn old && rn name) = false
    · rw [if_pos h2, if_pos h2]; rfl
    · rw [if_neg h2, if_neg h2]
      have e : lookD (a.withZ Z).dir old.data.toList = lookD a.dir old.data.toList := rfl
      rw [e]
      cases lookD a.dir old.data.toList with
      | none => rfl
      | some f =>
        by_cases h3 : old.data.toList = name.data.toList
        · simp only [if_pos h3]; rfl
        · simp only [if_neg h3]; rfl
theorem withZ_append (name : ByteArray) (bs : List UInt8) : (a.withZ Z).doAppend name bs = ((a.doAppend name bs).1, (a.doAppend name bs).2.withZ Z) := by
  unfold RA.doAppend
  by_cases h1 : a.err = 7
  · rw [if_pos (show (a.withZ Z).err = 7 from h1), if_pos h1]; rfl
  · rw [if_neg (show ¬ (a.withZ Z).err = 7 from h1), if_neg h1]
    by_cases h2 : rn name = false
    · rw [if_pos h2, if_pos h2]; rfl
    · rw [if_neg h2, if_neg h2]
      have e : lookD (a.withZ Z).dir name.data.toList = lookD a.dir name.data.toList := rfl
      rw [e]
      cases lookD a.dir name.data.toList with
      | none => rfl
      | some f =>
        by_cases h3 : a.fits bs.length
        · have h3' : ¬ ¬ a.fits bs.length := fun hn => hn h3
          have h3'' : ¬ ¬ (a.withZ Z).fits bs.length := h3'
          simp only [if_neg h3', if_neg h3'']
          by_cases h4 : a.err = 0
          · simp only [if_pos h4, if_pos (show (a.withZ Z).err = 0 from h4)]; rfl
          · simp only [if_neg h4, if_neg (show ¬ (a.withZ Z).err = 0 from h4)]
            by_cases h5 : a.hit = 2
            · simp only [if_pos h5, if_pos (show (a.withZ Z).hit = 2 from h5)]; rfl
            · simp only [if_neg h5, if_neg (show ¬ (a.withZ Z).hit = 2 from h5)]; rfl
        · have h3'' : ¬ (a.withZ Z).fits bs.length := h3
          simp only [if_pos h3, if_pos h3'']
          rfl
end
theorem withZ_rez (a : RA) (w w' : World) : a.rez w w' = a.withZ (newZ a.zone w w') := rfl
theorem PIs.withZ {w : World} {d base k : Nat} {Z : Nat → Prop} {a : RA} (h : PIs w d base k Z a) (Z' : Nat → Prop) : PIs w d base k Z (a.withZ Z') := by
  obtain ⟨s, fs, blk, h⟩ := h
  exact ⟨s, fs, blk, ⟨h.disk, h.files, h.nodup, h.len, h.file, h.cap, h.stop, h.ops, h.mN, h.mD, h.pend, h.used, h.flt, h.n, h.own, h.blo, h.zone, h.zlo⟩⟩
theorem Inv.withZ {k c : Nat} {a : RA} (h : Inv k c a) (Z : Nat → Prop) : Inv k c (a.withZ Z) := ⟨h.cap0, h.cap1, h.st0, h.st1, h.c0, h.c1, h.nf, h.np, h.nq, h.fq, h.len, h.okp, h.dir, h.tidy⟩

/-- A disk of the program's and one of the document's that say the same. -/
structure Pair (w0 w : World) (d r base k : Nat) (a : RA) : Prop where
  prog : PIs w d base k a.zone a
  doc : RefIs w r base a
  inv : Inv k k a
  bel : Below base w0 w
  bw : base ≤ w.heap.size

end Go.Proofs.Ytipakfdebccchaa
