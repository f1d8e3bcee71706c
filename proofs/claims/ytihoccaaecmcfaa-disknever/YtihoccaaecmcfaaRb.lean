/- A stopped pair: whatever is asked, both refuse. -/
import Derived.Test.YtihoccaaecmcfaaRa
import Derived.Test.YtihoccaaecmcfaaR3
import Derived.Test.YtihoccaaecmcfaaOps
namespace Go.Proofs.Ytihoccaaecmcfaa
open Go.RowKit Go.Maps Go.Sort

def xy : List UInt8 := [120, 121]

/-- The stopped pair: the program's disk with one file, and the document's. -/
structure Dead (w : World) (d f r p : Nat) (s : St) (v : Value) (cap : Int) (fv dv kv pv : Value) (dir : List (ByteArray × Int)) (cnt : Int) : Prop where
  disk : IsDisk w d s
  stop : s.stop = 0
  file : FileAt w f v xy 0
  ref : RefAt w r cap fv dv kv pv (.slice none 0 0) 0 cnt
  rD : w.ownsRow 0 99 2 dv dir.length (entCells dir)
  pair : w.heap[p]? = some (.cells #[.pointer (some ⟨d, 0, none⟩), .pointer (some ⟨r, 0, none⟩)] 29)
  c0 : 0 ≤ cnt

section
variable {w : World} {d f r p : Nat} {s : St} {v : Value} {cap : Int} {fv dv kv pv : Value} {dir : List (ByteArray × Int)} {cnt : Int} (h : Dead w d f r p s v cap fv dv kv pv dir cnt)
include h

theorem Dead.same {w' : World} {O : Nat → Prop} (k : Kept O w w') (hO : ∀ b, O b → w.heap.size ≤ b ∨ (∃ cs fr, w.heap[b]? = some (.cells cs 34 fr))) : Dead w' d f r p s v cap fv dv kv pv dir cnt := by
  have no : ∀ {b : Nat} {o : Obj}, w.heap[b]? = some o → (∀ cs fr, o ≠ .cells cs 34 fr) → ¬ O b := fun {b o} hb ho hOb => by
    rcases hO b hOb with h1 | ⟨cs, fr, h2⟩
    · have := (Array.getElem?_eq_some_iff.1 hb).1; omega
    · rw [h2] at hb; cases hb; exact ho cs fr rfl
  have nor : ∀ {base n size : Nat} {e : TypeId} {v : Value} {xs : List Value}, w.ownsRow base e size v n xs → e ≠ 34 → ∀ b, v.ownBlock = some b → ¬ O b := fun ho he b hb => by
    obtain ⟨cs, fr, e1⟩ := row_block ho hb
    exact no e1 (fun cs' fr' e2 => by cases e2; exact he rfl)
  have nom : ∀ {k : TypeId} {R : Value → Option (DataW Unit × List MemPlace)} {b n : Nat} {D : DataW Unit}, w.ownsMap Try.prog k R b n D → ¬ O b := fun ho => by
    obtain ⟨es, clock, hh, _⟩ := ho
    exact no hh (fun cs fr e => by cases e)
  refine ⟨h.disk.kept k (fun i hi => ?_), h.stop, h.file.kept k (no h.file.at_ (fun cs fr e => by simp at e)) (nor h.file.row (by decide)), h.ref.kept k (no h.ref (fun cs fr e => by simp at e)), k.ownsRow h.rD (nor h.rD (by decide)), k.heap h.pair (no h.pair (fun cs fr e => by simp at e)), h.c0⟩
  rcases hi with rfl | rfl | rfl | rfl | hi
  · have := h.disk.at_
    exact no this (fun cs fr e => by simp at e)
  · exact nom h.disk.mN
  · exact nom h.disk.mD
  · exact nom h.disk.mF
  · exact nor h.disk.row (by decide) i hi

theorem Dead.prog {w' : World} (hI : IsDisk w' d s.begun) (k : Kept (fun k => k = d ∨ k = s.fb) w w') : Dead w' d f r p s.begun v cap fv dv kv pv dir cnt := by
  have no : ∀ {b : Nat} {o : Obj}, w.heap[b]? = some o → (∀ cs fr, o ≠ .cells cs 69 fr) → (∀ es c, o ≠ .map es c) → ¬ (b = d ∨ b = s.fb) := fun {b o} hb h1 h2 hO => by
    rcases hO with rfl | rfl
    · have := h.disk.at_
      unfold DiskAt at this
      rw [this] at hb; cases hb; exact h1 _ _ rfl
    · obtain ⟨es, clock, hh, _⟩ := h.disk.mF
      rw [hh] at hb; cases hb; exact h2 _ _ rfl
  have nor : ∀ {base n size : Nat} {e : TypeId} {v : Value} {xs : List Value}, w.ownsRow base e size v n xs → e ≠ 69 → ∀ b, v.ownBlock = some b → ¬ (b = d ∨ b = s.fb) := fun ho he b hb => by
    obtain ⟨cs, fr, e1⟩ := row_block ho hb
    exact no e1 (fun cs' fr' e2 => by cases e2; exact he rfl) (fun _ _ e => by cases e)
  refine ⟨hI, ?_, h.file.kept k (no h.file.at_ (fun cs fr e => by simp at e) (fun _ _ e => by cases e)) (nor h.file.row (by decide)), h.ref.kept k (no h.ref (fun cs fr e => by simp at e) (fun _ _ e => by cases e)), k.ownsRow h.rD (nor h.rD (by decide)), k.heap h.pair (no h.pair (fun cs fr e => by simp at e) (fun _ _ e => by cases e)), h.c0⟩
  show bStop s.stop = 0
  rw [h.stop]
  rfl

theorem Dead.doc {w' : World} (hR : RefAt w' r cap fv dv kv pv (.slice none 0 0) 0 (cnt + 1)) (k : Kept (fun k => k = r) w w') : Dead w' d f r p s v cap fv dv kv pv dir (cnt + 1) := by
  have no : ∀ {b : Nat} {o : Obj}, w.heap[b]? = some o → (∀ cs fr, o ≠ .cells cs 41 fr) → ¬ (b = r) := fun {b o} hb h1 hO => by
    subst hO
    have := h.ref
    unfold RefAt at this
    rw [this] at hb; cases hb; exact h1 _ _ rfl
  have nor : ∀ {base n size : Nat} {e : TypeId} {v : Value} {xs : List Value}, w.ownsRow base e size v n xs → e ≠ 41 → ∀ b, v.ownBlock = some b → ¬ (b = r) := fun ho he b hb => by
    obtain ⟨cs, fr, e1⟩ := row_block ho hb
    exact no e1 (fun cs' fr' e2 => by cases e2; exact he rfl)
  have nom : ∀ {k : TypeId} {R : Value → Option (DataW Unit × List MemPlace)} {b n : Nat} {D : DataW Unit}, w.ownsMap Try.prog k R b n D → ¬ (b = r) := fun ho => by
    obtain ⟨es, clock, hh, _⟩ := ho
    exact no hh (fun cs fr e => by cases e)
  refine ⟨h.disk.kept k (fun i hi => ?_), h.stop, h.file.kept k (no h.file.at_ (fun cs fr e => by simp at e)) (nor h.file.row (by decide)), hR, k.ownsRow h.rD (nor h.rD (by decide)), k.heap h.pair (no h.pair (fun cs fr e => by simp at e)), by have := h.c0; omega⟩
  rcases hi with rfl | rfl | rfl | rfl | hi
  · have := h.disk.at_
    exact no this (fun cs fr e => by simp at e)
  · exact nom h.disk.mN
  · exact nom h.disk.mD
  · exact nom h.disk.mF
  · exact nor h.disk.row (by decide) i hi
end

/-- The operation's record, boxed. -/
def opCells (x : OpV) (act : Int) : Array Value := #[.int .i64 act, .int .i64 x.n, .int .i64 x.k, .string x.name, .string x.dest, x.bv, x.cv]

/-- The pair's block and the operation's, both there. -/
def Both (p d r B : Nat) (x : OpV) (act : Int) (w : World) : Prop := w.heap[p]? = some (.cells #[.pointer (some ⟨d, 0, none⟩), .pointer (some ⟨r, 0, none⟩)] 29) ∧ w.heap[B]? = some (.cells (opCells x act) 34)
theorem Both.all {p d r B : Nat} {x : OpV} {act : Int} {w : World} (h : Both p d r B x act w) : w.cell? ⟨p, 0, none⟩ = some (.pointer (some ⟨d, 0, none⟩)) ∧ w.cell? ⟨p, 1, none⟩ = some (.pointer (some ⟨r, 0, none⟩)) ∧ w.cell? ⟨B, 0, none⟩ = some (.int .i64 act) ∧ w.cell? ⟨B, 3, none⟩ = some (.string x.name) ∧ w.cell? ⟨B, 4, none⟩ = some (.string x.dest) ∧ w.cell? ⟨B, 5, none⟩ = some x.bv ∧ Both p d r B x act w :=
  ⟨by rw [cell_of_heap h.1]; rfl, by rw [cell_of_heap h.1]; rfl, by rw [cell_of_heap h.2]; rfl, by rw [cell_of_heap h.2]; rfl, by rw [cell_of_heap h.2]; rfl, by rw [cell_of_heap h.2]; rfl, h⟩
theorem Both.drew {p d r B : Nat} {x : OpV} {act : Int} {w : World} (h : Both p d r B x act w) : Both p d r B x act w.drew := h
theorem Both.kept {p d r B : Nat} {x : OpV} {act : Int} {w w' : World} (h : Both p d r B x act w) {O : Nat → Prop} (k : Kept O w w') (h1 : ¬ O p) (h2 : ¬ O B) : Both p d r B x act w' := ⟨k.heap h.1 h1, k.heap h.2 h2⟩

end Go.Proofs.Ytihoccaaecmcfaa
