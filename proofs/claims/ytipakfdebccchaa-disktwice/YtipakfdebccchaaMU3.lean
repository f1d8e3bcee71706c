/- Texts that belong together. -/
import Derived.Test.YtipakfdebccchaaMWe
/- A second crash changes nothing; the program's disk alone. -/
namespace Go.Proofs.Ytipakfdebccchaa
open Go.RowKit Go.Maps Go.Sort

theorem cutN_zero (cs : List Int) (i : Nat) : cutN cs i 0 = 0 := Nat.le_zero.1 (cutN_le cs i 0)
def idxF (dir : List (ByteArray × Int)) (names : List (List UInt8)) (i : Nat) : Nat := ((lookD dir (names.getD i [])).getD 0).toNat
def FullF (x : List UInt8 × Int) : Prop := x.2 = (x.1.length : Int)
theorem getD_set (l : List (List UInt8 × Int)) (m q : Nat) (x d : List UInt8 × Int) : (l.set m x).getD q d = if q = m ∧ m < l.length then x else l.getD q d := by
  simp only [List.getD, List.getElem?_set]
  by_cases e : m = q
  · subst e
    by_cases hl : m < l.length
    · simp [hl]
    · simp [hl]
  · have e' : ¬ q = m := fun h => e h.symm
    simp [e, e']
theorem crashF_full {B : Nat} (dir : List (ByteArray × Int)) (cs : List Int) (names : List (List UInt8)) (files : List (List UInt8 × Int)) (h : ∀ x, x ∈ files → x.1.length ≤ B ∧ 0 ≤ x.2 ∧ x.2 ≤ x.1.length) : ∀ j i, i < j → FullF ((crashF dir cs names files j).getD (idxF dir names i) ([], 0))
  | 0, i, hi => absurd hi (Nat.not_lt_zero i)
  | j + 1, i, hi => by
    have ih := crashF_full dir cs names files h j
    have hl := crashF_len dir cs names files h j
    have hx : ∀ q, 0 ≤ ((crashF dir cs names files j).getD q ([], 0)).2 ∧ ((crashF dir cs names files j).getD q ([], 0)).2 ≤ (((crashF dir cs names files j).getD q ([], 0)).1.length : Int) := fun q => by
      by_cases hq : q < (crashF dir cs names files j).length
      · have e : (crashF dir cs names files j).getD q ([], 0) = (crashF dir cs names files j)[q] := by simp [List.getD, hq]
        rw [e]
        exact (hl _ (List.getElem_mem hq)).2
      · have e : (crashF dir cs names files j).getD q ([], 0) = ([], 0) := by simp [List.getD, hq]
        rw [e]
        exact ⟨Int.le_refl _, Int.le_refl _⟩
    simp only [crashF]
    rw [getD_set]
    split
    · show (_ : Int) = _
      have h1 := hx (idxF dir names j)
      have h2 := cutN_le cs (j + 1) (((crashF dir cs names files j).getD (idxF dir names j) ([], 0)).1.length - ((crashF dir cs names files j).getD (idxF dir names j) ([], 0)).2.toNat)
      simp only [idxF] at h1 h2 ⊢
      rw [List.length_take]
      omega
    · rename_i hne
      by_cases e : i = j
      · subst e
        have hlt : ¬ idxF dir names i < (crashF dir cs names files i).length := fun hc => hne ⟨rfl, hc⟩
        have e2 : (crashF dir cs names files i).getD (idxF dir names i) ([], 0) = ([], 0) := by simp [List.getD, hlt]
        rw [e2]
        rfl
      · exact ih i (by omega)
theorem crashF_id (dir : List (ByteArray × Int)) (cs : List Int) (names : List (List UInt8)) (files : List (List UInt8 × Int)) : ∀ j, (∀ i, i < j → FullF (files.getD (idxF dir names i) ([], 0))) → crashF dir cs names files j = files
  | 0, _ => rfl
  | j + 1, h => by
    have ih := crashF_id dir cs names files j (fun i hi => h i (by omega))
    have hf := h j (by omega)
    simp only [crashF, ih]
    have e0 : files.getD ((lookD dir (names.getD j [])).getD 0).toNat ([], 0) = files.getD (idxF dir names j) ([], 0) := rfl
    rw [e0]
    show files.set (idxF dir names j) _ = files
    generalize idxF dir names j = m at *
    unfold FullF at hf
    have e1 : (files.getD m ([], 0)).2.toNat = (files.getD m ([], 0)).1.length := by rw [hf]; rfl
    rw [e1, Nat.sub_self, cutN_zero, Nat.add_zero, List.take_length]
    have e2 : ((files.getD m ([], 0)).1, ((files.getD m ([], 0)).1.length : Int)) = files.getD m ([], 0) := by rw [← hf]
    rw [e2]
    by_cases hm : m < files.length
    · have e3 : files.getD m ([], 0) = files[m] := by simp [List.getD, hm]
      rw [e3, List.set_getElem_self]
    · exact List.set_eq_of_length_le (by omega)
theorem crash_twice {k c : Nat} {a : RA} (h : Inv k c a) (ca cb : List Int) : (a.crash ca).crash cb = a.crash ca := by
  have e : (a.crash ca).crashDir cb = a.crashDir ca := by simp [RA.crashDir, RA.crash, foldL]
  have hf : crashF (a.crashDir ca) cb (namesL (a.crashDir ca) []) (a.crash ca).files (namesL (a.crashDir ca) []).length = (a.crash ca).files :=
    crashF_id _ _ _ _ _ (crashF_full (B := 200 * k) _ ca _ a.files h.len _)
  unfold RA.crash at hf ⊢
  unfold RA.crash at e
  simp only [e] at hf ⊢
  rw [hf]

/-- The program's disk alone. -/
structure PQ (w : World) (d base k : Nat) (Z : Nat → Prop) (a : RA) : Prop where
  prog : PIs w d base k Z a
  inv : Inv k k a
section
variable {w : World} {d base k : Nat} {Z : Nat → Prop} {a : RA} (h : PQ w d base k Z a)
include h
theorem PQ.below {w' : World} (hb : Below w.heap.size w w') : PQ w' d base k Z a := ⟨h.prog.below hb, h.inv⟩
theorem PQ.zlt (b : Nat) (hz : Z b) : b < w.heap.size := by
  obtain ⟨s, fs, blk, hP⟩ := h.prog
  exact (hP.zlo b hz).2
theorem Q_list (hk : k ≤ 1000) (x : ByteArray) : Calls Try.prog 12 #[.pointer (some ⟨d, 0, none⟩), .string x] w fun e w' => ∃ v, e = .returned v ∧ w'.ownsRow w.heap.size 9 1 v (namesL a.dir x.data.toList).length ((namesL a.dir x.data.toList).map encStr) ∧ Below w.heap.size w w' := by
  obtain ⟨s, fs, blk, hP⟩ := h.prog
  have := list_any hP.disk (hP.bounds h.inv hk hk).2.1 x
  rw [hP.mN.risen h.inv.tidyD hP.disk.mN] at this
  exact this
theorem Q_crash (hk : k ≤ 999) (cv : Value) (cs : List Int) (hcv : IntsAt w cv cs) (hlow : ∀ b, cv.ownBlock = some b → cs ≠ [] → b < base) : Calls Try.prog 11 #[.pointer (some ⟨d, 0, none⟩), cv] w fun e w' => e = .returned (.tuple #[]) ∧ PQ w' d base (k + 1) (newZ Z w w') (a.crash cs) ∧ KP Z base w w' := by
  obtain ⟨s, fs, blk, hP⟩ := h.prog
  refine (P_crash hP h.inv (by omega) (by omega) cv cs hcv.cuts (fun b o l c e hne => ?_)).mono (fun e w' ⟨he, h1, h2⟩ => ⟨he, ⟨h1, h.inv.crash cs⟩, h2⟩)
  have hb := hlow b (by rw [e]; rfl) hne
  rintro (hh | hh)
  · have := hP.own b hh
    omega
  · have := hP.blo b hh
    omega
theorem Q_read (hk : k ≤ 1000) (x : ByteArray) (hx : x.size ≤ maxLen) : Calls Try.prog 13 #[.pointer (some ⟨d, 0, none⟩), .string x] w fun e w' => ∃ v, e = .returned (.tuple #[v, .int .i64 (a.readR x).1]) ∧ w'.ownsRow w.heap.size 5 1 v (a.readR x).2.length (byteVals (a.readR x).2) ∧ Below w.heap.size w w' := by
  obtain ⟨s, fs, blk, hP⟩ := h.prog
  unfold RA.readR
  by_cases hr : rn x = false
  · rw [if_pos hr]
    refine (read_bad hP.disk x hx hr).mono ?_
    rintro e w' ⟨rfl, rfl⟩
    exact ⟨_, rfl, World.ownsRow_nil _ _ _ _, Below.refl _ _⟩
  rw [if_neg hr]
  have hr' : rn x = true := by simpa using hr
  cases hl : lookD a.dir x.data.toList with
  | none =>
    refine (read_none hP.disk x hx hr' (hP.lost hl)).mono ?_
    rintro e w' ⟨rfl, rfl⟩
    exact ⟨_, rfl, World.ownsRow_nil _ _ _ _, Below.refl _ _⟩
  | some f =>
    obtain ⟨m, hm, rfl, hat, hfile⟩ := hP.found hl h.inv.tidyD
    have hmem : blk[m] ∈ blk := List.getElem_mem hm
    have hlen : (fs blk[m]).bs.length ≤ 200 * k := (h.inv.len _ (List.mem_of_getElem? hfile)).1
    have eb : a.bytesAt (m : Int) = (fs blk[m]).bs := by simp [RA.bytesAt, hfile]
    show Calls _ _ _ w fun e w' => ∃ v, e = .returned (.tuple #[v, .int .i64 0]) ∧ w'.ownsRow w.heap.size 5 1 v (a.bytesAt (m : Int)).length (byteVals (a.bytesAt (m : Int))) ∧ Below w.heap.size w w'
    rw [eb]
    exact read_ok hP.disk x hx hr' blk[m] hat _ _ _ (hP.files.at_ _ hmem) (by omega)
theorem Q_durable (hk : k ≤ 1000) : Calls Try.prog 15 #[.pointer (some ⟨d, 0, none⟩)] w fun e w' => ∃ v, e = .returned v ∧ w'.ownsRow w.heap.size 9 1 v (namesL a.kept []).length ((namesL a.kept []).map encStr) ∧ Below w.heap.size w w' := by
  obtain ⟨s, fs, blk, hP⟩ := h.prog
  have := durable_any hP.disk (hP.bounds h.inv hk hk).2.1
  rw [hP.mD.risen h.inv.tidyK hP.disk.mD] at this
  exact this
end

theorem names_read {k c : Nat} {a : RA} (h : Inv k c a) {i : Nat} (hi : i < (namesL a.dir []).length) : ∃ xb : ByteArray, (namesL a.dir [])[i] = xb.data.toList ∧ encStr (namesL a.dir [])[i] = .string xb ∧ xb.size ≤ maxLen ∧ (a.readR xb).1 = 0 := by
  have hm : (namesL a.dir [])[i] ∈ a.dir.map fun e => e.1.data.toList := (namesL_perm a.dir).mem_iff.1 (List.getElem_mem hi)
  rw [List.mem_map] at hm
  obtain ⟨e, he, hee⟩ := hm
  have hr := h.tidyD.right e he
  refine ⟨e.1, hee.symm, ?_, ?_, ?_⟩
  · rw [← hee]
  · have := (rn_size hr).2
    unfold maxLen
    omega
  · unfold RA.readR
    rw [if_neg (by rw [hr]; simp)]
    cases hl : lookD a.dir e.1.data.toList with
    | none => exact absurd rfl (lookD_none hl e he)
    | some f => rfl
theorem read_len {k c : Nat} {a : RA} (h : Inv k c a) (x : ByteArray) : (a.readR x).2.length ≤ 200 * k := by
  unfold RA.readR
  split
  · simp
  · split
    · simp
    · exact (h.bytesAt _).1

end Go.Proofs.Ytipakfdebccchaa

/- DiskTwice: what holds between the crashes. -/
namespace Go.Proofs.Ytipakfdebccchaa
open Go.RowKit Go.Maps Go.Sort

theorem infoBs : (Try.prog.info? 31).map (fun i => (i.zero, i.size, i.bytes)) = some (some (.slice none 0 0), 1, 24) := by kernel_rfl
theorem wpList_append_bs (w : World) {ops : Array Oper} {rest : List Oper} {o : Oper} {a : Act} {Q : Exit → Act → World → Prop} (hgd : o.guard = none) (s x : Operand)
    (ho : o.op = .call { callee := .builtin .append, args := #[s, x], argTypes := #[47, 47] }) (base : Nat) (v : Value) (n : Nat) (xs : List Value) (hs : a.eval s = v) (hown : w.ownsRow base 31 1 v n xs)
    (g : Nat) (y : Value) (hx : a.eval x = .slice (some ⟨g, 0, none⟩) 1 1) (hy : w.cell? ⟨g, 0, none⟩ = some y) (hy1 : y.oneCell' = true) (hl : n + 1 ≤ 1000000) (hbase : base ≤ w.heap.size)
    (h : ∀ v' w', w'.ownsRow base 31 1 v' (n + 1) (xs ++ [y]) → w.grownBy w' v.ownBlock → wpList Try.prog ops Q rest (a.put o.dst v') w') :
    wpList Try.prog ops Q (o :: rest) a w := by
  obtain ⟨i0, hi0, hz0, hz1, hz2⟩ := info_parts infoBs
  obtain ⟨v', w', hr, h2, h3, _, _⟩ := run_append_own_at (P := Try.prog) w base 47 o.type 31 i0 _ 1 24 Try.underlying47 hi0 hz0 hz1 hz2 rfl (by decide) v n xs hown ⟨g, 0, none⟩ 1 1 [y] rfl (fun j u hj => by
    have : j = 0 := by
      have := (List.getElem?_eq_some_iff.1 hj).1
      simpa using this
    subst this
    simp at hj
    subst hj
    exact hy) (fun u hu => by simp at hu; subst hu; exact hy1) (by unfold maxLen; omega) (by omega) hbase
  refine wpList_plain hgd fun K hK => ?_
  unfold Oper.wp execOp
  simp only [ho, resolve, invoke, builtin, Sem.run_bind, Sem.run_pure, Result.andThen_ok, List.map_toArray, List.map_cons, List.map_nil, hs, hx, hr]
  exact hK _ _ (h v' w' h2 h3)

/-- What was read of a name. -/
def rdOf (A : RA) (i : Nat) : List UInt8 := (A.readR ⟨((namesL A.dir []).getD i []).toArray⟩).2
theorem rdOf_eq {A : RA} {i : Nat} (hi : i < (namesL A.dir []).length) {xb : ByteArray} (hx : (namesL A.dir [])[i] = xb.data.toList) : rdOf A i = (A.readR xb).2 := by
  unfold rdOf
  have e : (namesL A.dir []).getD i [] = xb.data.toList := by simp [List.getD, hi, hx]
  rw [e, Array.toArray_toList]

structure TW (w W : World) (d B1 k : Nat) (Z : Nat → Prop) (A : RA) (lv wasv : Value) (vals : List Value) (j : Nat) : Prop where
  pq : PQ W d w.heap.size k Z A
  bel : Below w.heap.size w W
  lo : w.heap.size ≤ B1
  hi : B1 ≤ W.heap.size
  lrow : W.ownsRow B1 9 1 lv (namesL A.dir []).length ((namesL A.dir []).map encStr)
  wrow : W.ownsRow B1 31 1 wasv j vals
  bytes : ∀ i, i < j → ∃ v, vals[i]? = some v ∧ W.ownsRow B1 5 1 v (rdOf A i).length (byteVals (rdOf A i))

section
variable {w W : World} {d B1 k : Nat} {Z : Nat → Prop} {A : RA} {lv wasv : Value} {vals : List Value} {j : Nat} (h : TW w W d B1 k Z A lv wasv vals j)
include h
theorem TW.below {W' : World} (hb : Below W.heap.size W W') : TW w W' d B1 k Z A lv wasv vals j :=
  ⟨h.pq.below hb, below_to h.bel hb h.bel.size, h.lo, Nat.le_trans h.hi hb.size, row_still h.lrow hb, row_still h.wrow hb, fun i hi => by
    obtain ⟨v, h1, h2⟩ := h.bytes i hi
    exact ⟨v, h1, row_still h2 hb⟩⟩
/-- One more has been read and put behind. -/
theorem TW.more {W' : World} {o : Obj} {v v' : Value} (hr : W.ownsRow B1 5 1 v (rdOf A j).length (byteVals (rdOf A j))) (hn : W'.ownsRow B1 31 1 v' (j + 1) (vals ++ [v])) (hg : (W.alloc o).grownBy W' wasv.ownBlock) : TW w W' d B1 k Z A lv v' (vals ++ [v]) (j + 1) := by
  have hk : Kept (fun i => wasv.ownBlock = some i) W W' := ((Kept.refl (fun i => wasv.ownBlock = some i) W).alloc o).grown hg (fun k _ e => e)
  have no : ∀ {q : Nat} {t : TypeId} {cs : Array Value} {fr : Nat × Nat}, W.heap[q]? = some (.cells cs t fr) → t ≠ 31 → ¬ wasv.ownBlock = some q := fun {q t cs fr} e1 e2 e3 => by
    obtain ⟨cs', fr', e⟩ := row_block h.wrow e3
    rw [e1] at e
    simp at e
    exact e2 e.2.1
  have nor : ∀ {base n size : Nat} {e : TypeId} {v : Value} {xs : List Value}, W.ownsRow base e size v n xs → e ≠ 31 → ∀ b, v.ownBlock = some b → ¬ wasv.ownBlock = some b := fun ho he b hb => by
    obtain ⟨cs', fr', e1⟩ := row_block ho hb
    exact no e1 he
  have hjl : vals.length = j := by
    have := h.wrow.1
    omega
  obtain ⟨s, fs, blk, hP⟩ := h.pq.prog
  refine ⟨⟨h.pq.prog.kept hk (fun i hi e => ?_), h.pq.inv⟩, h.bel.trans (hk.toBelow h.bel.size (fun i e => Nat.le_trans h.lo (h.wrow.lt i e).1)), h.lo, Nat.le_trans h.hi hk.size, hk.ownsRow h.lrow (nor h.lrow (by decide)), hn, fun i hi => ?_⟩
  · obtain ⟨cs, fr, e1⟩ := row_block h.wrow e
    exact po_no (Z := Z) (base := w.heap.size) e1 (by decide) (by decide) (by decide) (fun e => absurd e (by decide)) hi
  · by_cases e : i = j
    · subst e
      exact ⟨v, by rw [← hjl]; simp, hk.ownsRow hr (nor hr (by decide))⟩
    · obtain ⟨u, h1, h2⟩ := h.bytes i (by omega)
      exact ⟨u, by rw [List.getElem?_append_left (List.getElem?_eq_some_iff.1 h1).1]; exact h1, hk.ownsRow h2 (nor h2 (by decide))⟩
/-- A second crash leaves it. -/
theorem TW.again {cb : List Int} (hk : k ≤ 999) (hz : ∀ b, Z b → b < B1) (hd : A.crash cb = A) (cv : Value) (hcv : IntsAt w cv cb) (hlow : ∀ b, cv.ownBlock = some b → cb ≠ [] → b < w.heap.size) : Calls Try.prog 11 #[.pointer (some ⟨d, 0, none⟩), cv] W fun e W' => e = .returned (.tuple #[]) ∧ ∃ Z', TW w W' d B1 (k + 1) Z' A lv wasv vals j := by
  have k' : Kept (fun i => w.heap.size ≤ i) w W := ⟨h.bel.os, h.bel.tape, h.bel.output, h.bel.size, fun i _ hi => h.bel.block i (by omega)⟩
  have hI : IntsAt W cv cb := hcv.kept k' (fun b hb1 hne e => by have := hlow b hb1 hne; omega)
  refine (Q_crash h.pq hk cv cb hI hlow).mono ?_
  rintro e W' ⟨he, hq, hK⟩
  rw [hd] at hq
  have no : ∀ {base n size : Nat} {e : TypeId} {v : Value} {xs : List Value}, W.ownsRow base e size v n xs → e ≠ 59 → e ≠ 101 → e ≠ 72 → (e = 5 → B1 ≤ base) → ∀ b, v.ownBlock = some b → ¬ PO Z w.heap.size W b := fun ho h1 h2 h3 h4 b hb => by
    obtain ⟨cs', fr', e1⟩ := row_block ho hb
    exact po_no e1 h1 h2 h3 (fun e hz' => by
      have h5 := hz b hz'
      have h6 := (ho.lt b hb).1
      have h7 := h4 e
      omega)
  refine ⟨he, _, hq, h.bel.trans (hK.toBelow h.bel.size), h.lo, Nat.le_trans h.hi hK.size, ?_, ?_, fun i hi => ?_⟩
  · exact Kept.ownsRow (O := PO Z w.heap.size W) hK h.lrow (no h.lrow (by decide) (by decide) (by decide) (fun e => absurd e (by decide)))
  · exact Kept.ownsRow (O := PO Z w.heap.size W) hK h.wrow (no h.wrow (by decide) (by decide) (by decide) (fun e => absurd e (by decide)))
  · obtain ⟨v, h1, h2⟩ := h.bytes i hi
    exact ⟨v, h1, Kept.ownsRow (O := PO Z w.heap.size W) hK h2 (no h2 (by decide) (by decide) (by decide) (fun _ => Nat.le_refl _))⟩
end

end Go.Proofs.Ytipakfdebccchaa
