/- What a pair tells. -/
import Derived.Test.YtipakfdebccchaaMF6
namespace Go.Proofs.Ytipakfdebccchaa
open Go.RowKit Go.Maps Go.Sort

theorem ba_ext {x y : ByteArray} (h : x.data.toList = y.data.toList) : x = y := by
  cases x with
  | mk x => cases y with
    | mk y => exact congrArg ByteArray.mk (Array.toList_inj.1 h)

/-- The pair in memory, both disks saying a. -/
structure PW (w : World) (p d r base k : Nat) (a : RA) : Prop where
  pair : w.heap[p]? = some (.cells #[.pointer (some ⟨d, 0, none⟩), .pointer (some ⟨r, 0, none⟩)] 29)
  prog : PIs w d base k a.zone a
  doc : RefIs w r base a
  inv : Inv k k a

def RA.readR (a : RA) (name : ByteArray) : Int × List UInt8 := if rn name = false then (2, []) else match lookD a.dir name.data.toList with
  | none => (3, [])
  | some f => (0, a.bytesAt f)

section
variable {w : World} {p d r base k : Nat} {a : RA} (h : PW w p d r base k a)
include h

theorem PW.below {w' : World} (hb : Below w.heap.size w w') : PW w' p d r base k a := ⟨(hb.block p (Array.getElem?_eq_some_iff.1 h.pair).1).trans h.pair, h.prog.below hb, h.doc.below hb, h.inv⟩
theorem PW.cells : w.cell? ⟨p, 0, none⟩ = some (.pointer (some ⟨d, 0, none⟩)) ∧ w.cell? ⟨p, 1, none⟩ = some (.pointer (some ⟨r, 0, none⟩)) ∧ w.cell? ⟨r, 7, none⟩ = some (.int .i64 a.cnt) := by
  refine ⟨by rw [cell_of_heap h.pair]; rfl, by rw [cell_of_heap h.pair]; rfl, ?_⟩
  obtain ⟨s, hI, _, rfl⟩ := h.doc
  exact hI.at_.cells.2.2.2.2.2.2.2.1
theorem PW.all {w' : World} (hb : Below w.heap.size w w') : w'.cell? ⟨p, 0, none⟩ = some (.pointer (some ⟨d, 0, none⟩)) ∧ w'.cell? ⟨p, 1, none⟩ = some (.pointer (some ⟨r, 0, none⟩)) ∧ w'.cell? ⟨r, 7, none⟩ = some (.int .i64 a.cnt) ∧ Below w.heap.size w w' := by
  obtain ⟨h1, h2, h3⟩ := (h.below hb).cells
  exact ⟨h1, h2, h3, hb⟩

variable (hk : k ≤ 1000)
include hk
theorem T_list (x : ByteArray) : Calls Try.prog 12 #[.pointer (some ⟨d, 0, none⟩), .string x] w fun e w' => ∃ v, e = .returned v ∧ w'.ownsRow w.heap.size 9 1 v (namesL a.dir x.data.toList).length ((namesL a.dir x.data.toList).map encStr) ∧ Below w.heap.size w w' := by
  obtain ⟨s, fs, blk, hP⟩ := h.prog
  have := list_any hP.disk (hP.bounds h.inv hk hk).2.1 x
  rw [hP.mN.risen h.inv.tidyD hP.disk.mN] at this
  exact this
theorem T_durable : Calls Try.prog 15 #[.pointer (some ⟨d, 0, none⟩)] w fun e w' => ∃ v, e = .returned v ∧ w'.ownsRow w.heap.size 9 1 v (namesL a.kept []).length ((namesL a.kept []).map encStr) ∧ Below w.heap.size w w' := by
  obtain ⟨s, fs, blk, hP⟩ := h.prog
  have := durable_any hP.disk (hP.bounds h.inv hk hk).2.1
  rw [hP.mD.risen h.inv.tidyK hP.disk.mD] at this
  exact this
omit hk in
theorem T_used : Calls Try.prog 29 #[.pointer (some ⟨d, 0, none⟩)] w fun e w' => e = .returned (.int .i64 a.used) ∧ w' = w := by
  obtain ⟨s, fs, blk, hP⟩ := h.prog
  have := used_any hP.disk
  rw [hP.used] at this
  exact this
omit hk in
theorem T_ops : Calls Try.prog 8 #[.pointer (some ⟨d, 0, none⟩)] w fun e w' => e = .returned (.int .i64 a.cnt) ∧ w' = w := by
  obtain ⟨s, fs, blk, hP⟩ := h.prog
  have := ops_any hP.disk
  rw [hP.ops] at this
  exact this
omit hk in
theorem PW.names : (∀ e, e ∈ a.dir → e.1.size ≤ 64) ∧ (∀ e, e ∈ a.kept → e.1.size ≤ 64) := ⟨fun e he => (rn_size (h.inv.tidyD.right e he)).2, fun e he => (rn_size (h.inv.tidyK.right e he)).2⟩
theorem PW.lens : a.dir.length ≤ 1000 ∧ a.kept.length ≤ 1000 ∧ a.files.length ≤ 1000 := by
  have h1 := h.inv.tidyD.len
  have h2 := h.inv.tidyK.len
  have h3 := h.inv.nf
  exact ⟨by omega, by omega, by omega⟩
theorem L_list (x : ByteArray) (hx : x.size ≤ maxLen) : Calls Try.prog 26 #[.pointer (some ⟨r, 0, none⟩), .string x] w fun e w' => ∃ v, e = .returned v ∧ w'.ownsRow w.heap.size 9 1 v (namesL a.dir x.data.toList).length ((namesL a.dir x.data.toList).map encStr) ∧ Below w.heap.size w w' :=
  refList_any h.doc (h.lens hk).1 h.names.1 x hx
theorem L_durable : Calls Try.prog 28 #[.pointer (some ⟨r, 0, none⟩)] w fun e w' => ∃ v, e = .returned v ∧ w'.ownsRow w.heap.size 9 1 v (namesL a.kept []).length ((namesL a.kept []).map encStr) ∧ Below w.heap.size w w' :=
  refDurable_any h.doc (h.lens hk).2.1 h.names.2
theorem L_used : Calls Try.prog 30 #[.pointer (some ⟨r, 0, none⟩)] w fun e w' => e = .returned (.int .i64 a.used) ∧ ∃ q, w' = w.drewN q :=
  refUsed_is h.doc h.inv.whole (by have := (h.lens hk).1; omega) (by have := h.inv.used_b hk; omega)

theorem T_read (x : ByteArray) (hx : x.size ≤ maxLen) : Calls Try.prog 13 #[.pointer (some ⟨d, 0, none⟩), .string x] w fun e w' => ∃ v, e = .returned (.tuple #[v, .int .i64 (a.readR x).1]) ∧ w'.ownsRow w.heap.size 5 1 v (a.readR x).2.length (byteVals (a.readR x).2) ∧ Below w.heap.size w w' := by
  obtain ⟨s, fs, blk, hP⟩ := h.prog
  unfold RA.readR
  by_cases hr : rn x = false
  · rw [if_pos hr]
    refine (read_bad hP.disk x hx hr).mono ?_
    rintro e w' ⟨rfl, rfl⟩
    exact ⟨_, rfl, World.ownsRow_nil _ _ _ _, Below.refl _ _⟩
  rw [if_neg hr]
  have hr' : rn x = true := by simpa using hr
  cases hl : lookD a.dir x.data.toList with
  | none =>
    refine (read_none hP.disk x hx hr' (hP.lost hl)).mono ?_
    rintro e w' ⟨rfl, rfl⟩
    exact ⟨_, rfl, World.ownsRow_nil _ _ _ _, Below.refl _ _⟩
  | some f =>
    obtain ⟨m, hm, rfl, hat, hfile⟩ := hP.found hl h.inv.tidyD
    have hmem : blk[m] ∈ blk := List.getElem_mem hm
    have hlen : (fs blk[m]).bs.length ≤ 200 * k := (h.inv.len _ (List.mem_of_getElem? hfile)).1
    have eb : a.bytesAt (m : Int) = (fs blk[m]).bs := by simp [RA.bytesAt, hfile]
    show Calls _ _ _ w fun e w' => ∃ v, e = .returned (.tuple #[v, .int .i64 0]) ∧ w'.ownsRow w.heap.size 5 1 v (a.bytesAt (m : Int)).length (byteVals (a.bytesAt (m : Int))) ∧ Below w.heap.size w w'
    rw [eb]
    exact read_ok hP.disk x hx hr' blk[m] hat _ _ _ (hP.files.at_ _ hmem) (by omega)
theorem L_read (x : ByteArray) (hx : x.size ≤ maxLen) : Calls Try.prog 25 #[.pointer (some ⟨r, 0, none⟩), .string x] w fun e w' => ∃ v, e = .returned (.tuple #[v, .int .i64 (a.readR x).1]) ∧ w'.ownsRow w.heap.size 5 1 v (a.readR x).2.length (byteVals (a.readR x).2) ∧ Below w.heap.size w w' := by
  have hl1 : a.dir.length ≤ 1000000000 := by have := (h.lens hk).1; omega
  unfold RA.readR
  by_cases hr : rn x = false
  · rw [if_pos hr]
    refine (refRead_bad h.doc hl1 x hx hr).mono ?_
    rintro e w' ⟨rfl, rfl⟩
    exact ⟨_, rfl, World.ownsRow_nil _ _ _ _, Below.refl _ _⟩
  rw [if_neg hr]
  have hr' : rn x = true := by simpa using hr
  cases hl : lookD a.dir x.data.toList with
  | none =>
    refine (refRead_none h.doc hl1 x hx hr' (look_neg hl)).mono ?_
    rintro e w' ⟨rfl, rfl⟩
    exact ⟨_, rfl, World.ownsRow_nil _ _ _ _, Below.refl _ _⟩
  | some f =>
    obtain ⟨j, hj, hj1, hj2⟩ := look_at hl
    obtain ⟨m, hm1, hm2⟩ := h.inv.tidyD.lt _ (List.getElem_mem hj)
    rw [hj1] at hm1
    subst hm1
    have hfm : a.files[m]? = some (a.files[m].1, a.files[m].2) := List.getElem?_eq_getElem hm2
    have eb : a.bytesAt (m : Int) = a.files[m].1 := by simp [RA.bytesAt, hm2]
    have hlen := (h.inv.len _ (List.getElem_mem hm2)).1
    show Calls _ _ _ w fun e w' => ∃ v, e = .returned (.tuple #[v, .int .i64 0]) ∧ w'.ownsRow w.heap.size 5 1 v (a.bytesAt (m : Int)).length (byteVals (a.bytesAt (m : Int))) ∧ Below w.heap.size w w'
    rw [eb]
    exact refRead_ok h.doc hl1 x hx hr' (by have := (h.lens hk).2.2; omega) j m hj hj2 hj1 _ _ hfm (by omega)
omit hk in
theorem PW.readLen (x : ByteArray) : (a.readR x).2.length ≤ 200 * k := by
  unfold RA.readR
  split
  · simp
  · split
    · simp
    · exact (h.inv.bytesAt _).1
end

end Go.Proofs.Ytipakfdebccchaa
