/- What holds while the document's Crash goes through the names. -/
import Derived.Test.YtipakfdebccchaaMSa
namespace Go.Proofs.Ytipakfdebccchaa
open Go.RowKit Go.Maps Go.Sort

theorem IsRef.below {w w' : World} {r : Nat} {s : RSt} (h : IsRef w r s) (hb : Below w.heap.size w w') : IsRef w' r s := h.kept ((Kept.refl (fun _ => False) w).below hb) id (fun _ _ _ _ => id)
theorem RefIs.below {w w' : World} {r base : Nat} {a : RA} (h : RefIs w r base a) (hb : Below w.heap.size w w') : RefIs w' r base a := by
  obtain ⟨s, hI, h1, h2⟩ := h
  exact ⟨s, hI.below hb, h1, h2⟩
theorem row_still {w w' : World} {base n size : Nat} {e : TypeId} {v : Value} {xs : List Value} (h : w.ownsRow base e size v n xs) (hb : Below w.heap.size w w') : w'.ownsRow base e size v n xs := ((Kept.refl (fun _ => False) w).below hb).ownsRow h (fun _ _ e => e)

theorem IsRef.noFaults {w : World} {r : Nat} {s : RSt} (h : IsRef w r s) : IsRef (w.setCell ⟨r, 5, none⟩ (.slice none 0 0)) r { s with qv := .slice none 0 0, faults := [] } ∧ KT (refS s.base) w (w.setCell ⟨r, 5, none⟩ (.slice none 0 0)) := by
  have k2 := kt_set h.at_ h.lo 5 (.slice none 0 0)
  exact ⟨⟨h.lo, h.at_.set5 _, k2.ownsRow h.rF (noS rfl), k2.ownsRow h.rD (noS rfl), k2.ownsRow h.rK (noS rfl), k2.ownsRow h.rP (noS rfl), World.ownsRow_nil _ _ _ _, fun x hx => k2.rb (h.bytes x hx) (noS rfl), h.sep.of k2.size rfl rfl⟩, k2.ref rfl⟩
theorem IsRef.noStop {w : World} {r : Nat} {s : RSt} (h : IsRef w r s) : IsRef (w.setCell ⟨r, 6, none⟩ (.int .i64 (-1))) r { s with stop := -1 } ∧ KT (refS s.base) w (w.setCell ⟨r, 6, none⟩ (.int .i64 (-1))) :=
  h.own1 ((Kept.refl (fun k => k = r) w).setCell (p := ⟨r, 6, none⟩) (fun _ => rfl) _) (h.at_.set6 (-1))

structure CrashW (w wr : World) (r q base : Nat) (a : RA) (cs : List Int) (names : List (List UInt8)) (dir : List (ByteArray × Int)) (nv dv dn : Value) (F : List (List UInt8 × Int)) (i : Nat) (D : List Int) : Prop where
  ref : RefIs wr r base { a with files := F }
  nx : NextAt wr q base cs i
  nm : wr.ownsRow base 9 1 nv names.length (names.map encStr)
  dr : wr.ownsRow base 90 2 dv dir.length (entCells dir)
  dn : wr.ownsRow w.heap.size 3 1 dn D.length (D.map fun x => Value.int .i64 x)
  kt : KT (refS base) w wr
  q0 : w.heap.size ≤ q
  b0 : base ≤ w.heap.size

section
variable {w wr wr' : World} {r q base : Nat} {a : RA} {cs : List Int} {names : List (List UInt8)} {dir : List (ByteArray × Int)} {nv dv dn : Value} {F : List (List UInt8 × Int)} {i : Nat} {D : List Int} (h : CrashW w wr r q base a cs names dir nv dv dn F i D)
include h
theorem CrashW.below (hb : Below wr.heap.size wr wr') : CrashW w wr' r q base a cs names dir nv dv dn F i D :=
  ⟨h.ref.below hb, h.nx.kept ((Kept.refl (fun _ => False) wr).below hb) id (fun _ _ => id), row_still h.nm hb, row_still h.dr hb, row_still h.dn hb, h.kt.trans (KT.below hb), h.q0, h.b0⟩
theorem CrashW.next (k : Kept (fun b => b = q) wr wr') {i' : Nat} (hn : NextAt wr' q base cs i') : CrashW w wr' r q base a cs names dir nv dv dn F i' D := by
  obtain ⟨_, sv, hq, _⟩ := h.nx
  have no : ∀ {b : Nat} {cs' : Array Value} {t : TypeId} {fr : Nat × Nat}, wr.heap[b]? = some (.cells cs' t fr) → t ≠ 82 → ¬ b = q := fun {b cs' t fr} e1 e2 e3 => by
    subst e3
    rw [hq] at e1
    simp at e1
    exact e2 e1.2.1.symm
  have nor : ∀ {base n size : Nat} {e : TypeId} {v : Value} {xs : List Value}, wr.ownsRow base e size v n xs → e ≠ 82 → ∀ b, v.ownBlock = some b → ¬ b = q := fun ho he b hb => by
    obtain ⟨cs', fr, e1⟩ := row_block ho hb
    exact no e1 he
  obtain ⟨s, hI, h1, h2⟩ := h.ref
  have hat := hI.at_
  refine ⟨⟨s, hI.kept k (no hat (by decide)) (fun b t ht ⟨cs', fr, e1⟩ => no e1 (fun e => ?_)), h1, h2⟩, hn, k.ownsRow h.nm (nor h.nm (by decide)), k.ownsRow h.dr (nor h.dr (by decide)), k.ownsRow h.dn (nor h.dn (by decide)), ?_, h.q0, h.b0⟩
  · subst e
    simp at ht
  · refine Kept.trans h.kt k (fun b hb e => ?_)
    have := h.q0
    have e' : b = q := e
    omega
omit h in
theorem IsRef.nextK {s : RSt} (hI : IsRef wr r s) (hn : NextAt wr q base cs i) (k : Kept (fun b => b = q) wr wr') : IsRef wr' r s := by
  obtain ⟨_, sv, hq, _⟩ := hn
  have no : ∀ {b : Nat} {cs' : Array Value} {t : TypeId} {fr : Nat × Nat}, wr.heap[b]? = some (.cells cs' t fr) → t ≠ 82 → ¬ b = q := fun {b cs' t fr} e1 e2 e3 => by
    subst e3
    rw [hq] at e1
    simp at e1
    exact e2 e1.2.1.symm
  have hat := hI.at_
  refine hI.kept k (no hat (by decide)) (fun b t ht ⟨cs', fr, e1⟩ => no e1 (fun e => ?_))
  subst e
  simp at ht
theorem CrashW.turn (k : KT (refS base) wr wr') {F' : List (List UInt8 × Int)} (hr : RefIs wr' r base { a with files := F' }) : CrashW w wr' r q base a cs names dir nv dv dn F' i D := by
  obtain ⟨_, sv, hq, _⟩ := h.nx
  refine ⟨hr, h.nx.kept (O := Ty (refS base) wr) k (fun ⟨cs', t, fr, e1, e2⟩ => ?_) (fun b hb ⟨cs', t, fr, e1, e2⟩ => ?_), k.ownsRow h.nm (noR rfl), k.ownsRow h.dr (noR rfl), k.ownsRow h.dn (noR rfl), h.kt.trans k, h.q0, h.b0⟩
  · rw [hq] at e1
    simp at e1
    obtain ⟨_, e3, _⟩ := e1
    subst e3
    simp [refS, refT] at e2
  · unfold refS at e2
    simp at e2
    omega
theorem CrashW.more {o : Obj} {dn' : Value} {x : Int} (hg : (wr.alloc o).grownBy wr' dn.ownBlock) (hd : wr'.ownsRow w.heap.size 3 1 dn' (D.length + 1) ((D.map fun x => Value.int .i64 x) ++ [.int .i64 x])) : CrashW w wr' r q base a cs names dir nv dv dn' F i (D ++ [x]) := by
  have k : KT (oneS w.heap.size 3) wr wr' := kt_grown h.dn hg
  obtain ⟨s, hI, h1, h2⟩ := h.ref
  obtain ⟨_, sv, hq, _⟩ := h.nx
  have hty : ∀ b t, (t = 93 ∨ t = 90 ∨ t = 85 ∨ t = 79 ∨ t = 5 ∨ t = 41 ∨ t = 82) → (∃ cs' fr, wr.heap[b]? = some (.cells cs' t fr)) → ¬ Ty (oneS w.heap.size 3) wr b := fun b t ht ⟨cs', fr, e1⟩ ⟨cs2, t2, fr2, e2, e3⟩ => by
    rw [e1] at e2
    simp at e2
    obtain ⟨_, e4, _⟩ := e2
    subst e4
    unfold oneS at e3
    simp at e3
    obtain ⟨_, e5⟩ := e3
    subst e5
    simp at ht
  have hat := hI.at_
  refine ⟨⟨s, hI.kept (O := Ty (oneS w.heap.size 3) wr) k (hty r 41 (by simp) ⟨_, _, hat⟩) (fun b t ht e => hty b t (by rcases ht with e | e | e | e | e <;> simp [e]) e), h1, h2⟩, h.nx.kept (O := Ty (oneS w.heap.size 3) wr) k (hty q 82 (by simp) ⟨_, _, hq⟩) (fun b hb ⟨cs', t, fr, e1, e2⟩ => ?_), k.ownsRow h.nm (noS rfl), k.ownsRow h.dr (noS rfl), ?_, ?_, h.q0, h.b0⟩
  · unfold oneS at e2
    simp at e2
    have := h.b0
    omega
  · rw [List.length_append, List.length_singleton, List.map_append]
    exact hd
  · refine Kept.trans h.kt k (fun b hb ⟨cs', t, fr, e1, e2⟩ => ?_)
    unfold oneS at e2
    simp at e2
    omega
end

/-- The names, each once, and what they name. -/
theorem namesL_perm (dir : List (ByteArray × Int)) : (namesL dir []).Perm (dir.map fun e => e.1.data.toList) := by
  unfold namesL
  refine (List.mergeSort_perm _ _).trans ?_
  rw [List.filter_eq_self.2]
  intro x _
  simp [Lib.hasPrefix]
theorem namesL_nodup {n : Nat} {dir : List (ByteArray × Int)} (h : TidyD n dir) : (namesL dir []).Nodup := by
  rw [(namesL_perm dir).nodup_iff, List.Nodup, List.pairwise_map]
  exact h.names
theorem namesL_look {n : Nat} {dir : List (ByteArray × Int)} (h : TidyD n dir) {x : List UInt8} (hx : x ∈ namesL dir []) : ∃ m : Nat, lookD dir x = some (m : Int) ∧ m < n := by
  rw [(namesL_perm dir).mem_iff, List.mem_map] at hx
  obtain ⟨e, he, rfl⟩ := hx
  obtain ⟨m, h1, h2⟩ := h.lt e he
  exact ⟨m, by rw [mem_lookD h.names he, h1], h2⟩
theorem look_inj {n : Nat} {dir : List (ByteArray × Int)} (h : TidyD n dir) {x y : List UInt8} {f : Int} (hx : lookD dir x = some f) (hy : lookD dir y = some f) : x = y := by
  obtain ⟨e1, h1, h2, h3⟩ := lookD_mem hx
  obtain ⟨e2, h4, h5, h6⟩ := lookD_mem hy
  have := pair_inj h.files e1 h1 e2 h4 (h3.trans h6.symm)
  rw [← h2, ← h5, this]
/-- The files that were cut. -/
def doneL (dir : List (ByteArray × Int)) (names : List (List UInt8)) (j : Nat) : List Int := (names.take j).map fun x => (lookD dir x).getD 0
theorem doneL_length (dir : List (ByteArray × Int)) (names : List (List UInt8)) (j : Nat) (hj : j ≤ names.length) : (doneL dir names j).length = j := by
  unfold doneL
  rw [List.length_map, List.length_take]
  omega
theorem doneL_succ (dir : List (ByteArray × Int)) (names : List (List UInt8)) (j : Nat) (hj : j < names.length) : doneL dir names (j + 1) = doneL dir names j ++ [(lookD dir names[j]).getD 0] := by
  unfold doneL
  rw [List.take_succ_eq_append_getElem hj, List.map_append]
  rfl
theorem doneL_ne {n : Nat} {dir : List (ByteArray × Int)} (h : TidyD n dir) {j t m : Nat} (hj : j < (namesL dir []).length) (ht : t < j) (hm : lookD dir (namesL dir [])[j] = some (m : Int)) : ∃ f : Int, (doneL dir (namesL dir []) j)[t]? = some f ∧ f ≠ (m : Int) := by
  obtain ⟨m2, h1, _⟩ := namesL_look h (List.getElem_mem (l := namesL dir []) (n := t) (by omega))
  refine ⟨(m2 : Int), ?_, fun e => ?_⟩
  · unfold doneL
    rw [List.getElem?_map, List.getElem?_take, if_pos ht, List.getElem?_eq_getElem (by omega)]
    simp [h1]
  · rw [e] at h1
    have := look_inj h h1 hm
    have := (List.getElem_inj (namesL_nodup h)).1 this
    omega

theorem crashF_len {B : Nat} (dir : List (ByteArray × Int)) (cs : List Int) (names : List (List UInt8)) (files : List (List UInt8 × Int)) (h : ∀ x, x ∈ files → x.1.length ≤ B ∧ 0 ≤ x.2 ∧ x.2 ≤ x.1.length) : ∀ j x, x ∈ crashF dir cs names files j → x.1.length ≤ B ∧ 0 ≤ x.2 ∧ x.2 ≤ x.1.length
  | 0, x, hx => h x hx
  | j + 1, x, hx => by
    have ih := crashF_len dir cs names files h j
    simp only [crashF] at hx
    rcases List.mem_or_eq_of_mem_set hx with hx | rfl
    · exact ih x hx
    · generalize ((lookD dir (names.getD j [])).getD 0).toNat = m
      cases e : (crashF dir cs names files j)[m]? with
      | none =>
        rw [List.getD_eq_getElem?_getD, e]
        simp [cutN]
        split <;> simp <;> omega
      | some y =>
        rw [List.getD_eq_getElem?_getD, e]
        have h1 := ih y (List.mem_of_getElem? e)
        have h2 := cutN_le cs (j + 1) (y.1.length - y.2.toNat)
        simp only [Option.getD_some, List.length_take]
        omega
theorem crashF_succ (dir : List (ByteArray × Int)) (cs : List Int) (names : List (List UInt8)) (files : List (List UInt8 × Int)) {j m : Nat} (hj : j < names.length) (hm : lookD dir names[j] = some (m : Int)) {bs : List UInt8} {kp : Nat} (hf : (crashF dir cs names files j)[m]? = some (bs, (kp : Int))) :
    crashF dir cs names files (j + 1) = (crashF dir cs names files j).set m (bs.take (kp + cutN cs (j + 1) (bs.length - kp)), ((kp + cutN cs (j + 1) (bs.length - kp) : Nat) : Int)) := by
  have e1 : names.getD j [] = names[j] := by simp [List.getD, hj]
  simp only [crashF, e1, hm, Option.getD_some, Int.toNat_natCast]
  rw [List.getD_eq_getElem?_getD, hf]
  simp

end Go.Proofs.Ytipakfdebccchaa
