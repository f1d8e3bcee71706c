/- The document's operations, as functions of what the disk says. -/
import Derived.Test.YtipakfdebccchaaME4
import Derived.Test.YtipakfdebccchaaMS9
import Derived.Test.YtipakfdebccchaaMS7
namespace Go.Proofs.Ytipakfdebccchaa
open Go.RowKit Go.Maps Go.Sort

/-- What a step of the document's disk comes to. -/
def DStep (r base : Nat) (w : World) (x : Int × RA) (e : Ending) (w' : World) : Prop := e = .returned (.int .i64 x.1) ∧ RefIs w' r base x.2 ∧ KT (refS base) w w'

section
variable {w : World} {r base k c : Nat} {a : RA} (h : RefIs w r base a) (hi : Inv k c a) (hk : k ≤ 1000) (hc : c ≤ 1000)
include h hi hk hc

theorem RefIs.begins : Begins w r base a.begun a.err a.hit := begins_any h hi.fq (by have := hi.nq; omega) hi.c0 (by have := hi.c1; omega) hi.st0 hi.st1
omit h hc in
theorem Inv.small : a.dir.length ≤ 1000000000 ∧ a.pend.length ≤ 1000000000 ∧ a.files.length ≤ 1000000000 := by
  have h1 := hi.tidyD.len
  have h2 := hi.nf
  have h3 := hi.np
  exact ⟨by omega, by omega, by omega⟩

theorem D_create (name : ByteArray) (hs : name.size ≤ maxLen) : Calls Try.prog 49 #[.pointer (some ⟨r, 0, none⟩), .string name] w (DStep r base w (a.doCreate name)) := by
  have hb := h.begins hi hk hc
  obtain ⟨s1, s2, s3⟩ := hi.small hk
  unfold RA.doCreate
  by_cases hE : a.err ≠ 0
  · rw [if_pos hE]
    exact refCreate_refused hb hE name
  rw [if_neg hE]
  have hE' : a.err = 0 := by omega
  rw [hE'] at hb
  by_cases hr : rn name = false
  · rw [if_pos hr]
    exact refCreate_bad hb name hs hr
  rw [if_neg hr]
  have hr' : rn name = true := by simpa using hr
  cases hl : lookD a.dir name.data.toList with
  | none =>
    rw [if_neg (by simp)]
    exact refCreate_done hb s1 s2 name hs hr' (look_neg hl) s3
  | some f =>
    rw [if_pos (by rfl)]
    obtain ⟨j, hj, _, hj2⟩ := look_at hl
    exact refCreate_there hb s1 name hs hr' (fun i hi' => by have := hj2 i hi'; omega)

theorem D_remove (name : ByteArray) (hs : name.size ≤ maxLen) : Calls Try.prog 57 #[.pointer (some ⟨r, 0, none⟩), .string name] w (DStep r base w (a.doRemove name)) := by
  have hb := h.begins hi hk hc
  obtain ⟨s1, s2, s3⟩ := hi.small hk
  unfold RA.doRemove
  by_cases hE : a.err ≠ 0
  · rw [if_pos hE]
    exact refRemove_refused hb hE name
  rw [if_neg hE]
  have hE' : a.err = 0 := by omega
  rw [hE'] at hb
  by_cases hr : rn name = false
  · rw [if_pos hr]
    exact refRemove_bad hb name hs hr
  rw [if_neg hr]
  have hr' : rn name = true := by simpa using hr
  cases hl : lookD a.dir name.data.toList with
  | none =>
    rw [if_pos (by rfl)]
    exact refRemove_none hb s1 name hs hr' (look_neg hl)
  | some f =>
    rw [if_neg (by simp)]
    obtain ⟨j, hj, _, hj2⟩ := look_at hl
    exact refRemove_done hb s1 s2 name hs hr' (fun i hi' => by have := hj2 i hi'; omega)

theorem D_syncDir : Calls Try.prog 58 #[.pointer (some ⟨r, 0, none⟩)] w (DStep r base w a.doSyncDir) := by
  have hb := h.begins hi hk hc
  obtain ⟨s1, s2, s3⟩ := hi.small hk
  unfold RA.doSyncDir
  by_cases hE : a.err ≠ 0
  · rw [if_pos hE]
    exact refSyncDir_refused hb hE
  rw [if_neg hE]
  have hE' : a.err = 0 := by omega
  rw [hE'] at hb
  exact refSyncDir_done hb s1

theorem D_sync (name : ByteArray) (hs : name.size ≤ maxLen) : Calls Try.prog 53 #[.pointer (some ⟨r, 0, none⟩), .string name] w (DStep r base w (a.doSync name)) := by
  have hb := h.begins hi hk hc
  obtain ⟨s1, s2, s3⟩ := hi.small hk
  unfold RA.doSync
  by_cases hE : a.err ≠ 0
  · rw [if_pos hE]
    exact refSync_refused hb hE name s1
  rw [if_neg hE]
  have hE' : a.err = 0 := by omega
  rw [hE'] at hb
  by_cases hr : rn name = false
  · rw [if_pos hr]
    exact refSync_bad hb s1 name hs hr
  rw [if_neg hr]
  have hr' : rn name = true := by simpa using hr
  cases hl : lookD a.dir name.data.toList with
  | none => exact refSync_none hb s1 name hs hr' (look_neg hl)
  | some f =>
    obtain ⟨j, hj, hj1, hj2⟩ := look_at hl
    obtain ⟨m, hm1, hm2⟩ := hi.tidyD.lt _ (List.getElem_mem hj)
    rw [hj1] at hm1
    subst hm1
    have hfm : a.files[m]? = some (a.files[m].1, a.files[m].2) := List.getElem?_eq_getElem hm2
    have eb : a.bytesAt (m : Int) = a.files[m].1 := by simp [RA.bytesAt, hm2]
    show Calls _ _ _ w (DStep r base w (0, a.begun.sync (m : Int).toNat (a.bytesAt (m : Int))))
    rw [eb, Int.toNat_natCast]
    exact refSync_done hb s1 s3 name hs hr' j m hj hj2 hj1 _ _ hfm

theorem D_rename (old name : ByteArray) (hs : old.size ≤ maxLen) (hs2 : name.size ≤ maxLen) : Calls Try.prog 55 #[.pointer (some ⟨r, 0, none⟩), .string old, .string name] w (DStep r base w (a.doRename old name)) := by
  have hb := h.begins hi hk hc
  obtain ⟨s1, s2, s3⟩ := hi.small hk
  unfold RA.doRename
  by_cases hE : a.err ≠ 0
  · rw [if_pos hE]
    exact refRename_refused hb hE old name s1
  rw [if_neg hE]
  have hE' : a.err = 0 := by omega
  rw [hE'] at hb
  by_cases hr : (rn old && rn name) = false
  · rw [if_pos hr]
    exact refRename_bad hb s1 old name hs hs2 (by cases e1 : rn old <;> simp_all)
  rw [if_neg hr]
  have hr0 : rn old = true ∧ rn name = true := by simpa using hr
  obtain ⟨h1, h2⟩ := hr0
  cases hl : lookD a.dir old.data.toList with
  | none => exact refRename_none hb s1 old name hs hs2 h1 h2 (look_neg hl)
  | some f =>
    obtain ⟨j, hj, hj1, hj2⟩ := look_at hl
    show Calls _ _ _ w (DStep r base w (if old.data.toList = name.data.toList then _ else _))
    by_cases he : old.data.toList = name.data.toList
    · rw [if_pos he]
      refine refRename_same hb s1 old name hs hs2 h1 h2 (fun i hi' => by have := hj2 i hi'; omega) ?_
      cases old with
      | mk x => cases name with
        | mk y => exact congrArg ByteArray.mk (Array.toList_inj.1 he)
    · rw [if_neg he]
      exact refRename_done hb s1 old name hs hs2 h1 h2 s2 j hj hj2 f hj1 (nm_bne.2 he)

theorem D_append (name : ByteArray) (hs : name.size ≤ maxLen) (bv : Value) (bs : List UInt8) (hbv : AB w base bv bs) (hbl : bs.length ≤ 200) :
    Calls Try.prog 51 #[.pointer (some ⟨r, 0, none⟩), .string name, bv] w (DStep r base w (a.doAppend name bs)) := by
  have hb := h.begins hi hk hc
  obtain ⟨s1, s2, s3⟩ := hi.small hk
  unfold RA.doAppend
  by_cases h7 : a.err = 7
  · rw [if_pos h7]
    rw [h7] at hb
    exact refAppend_died hb name bv
  rw [if_neg h7]
  have hrg : (a.err = 0 ∧ a.hit = 0) ∨ (a.err = 6 ∧ a.hit = 1) ∨ (a.err = 6 ∧ a.hit = 2) := by
    rcases hit_range a with e | e | e | e
    · exact Or.inl e
    · exact Or.inr (Or.inl e)
    · exact Or.inr (Or.inr e)
    · exact absurd e h7
  by_cases hr : rn name = false
  · rw [if_pos hr]
    rcases hrg with ⟨e, e'⟩ | ⟨e, e'⟩ | ⟨e, e'⟩
    · rw [e, e'] at hb
      rw [if_pos e]
      exact refAppend_bad00 hb s1 name hs hr bv bs hbv
    · rw [e, e'] at hb
      rw [if_neg (by omega)]
      exact refAppend_bad61 hb s1 name hs hr bv bs hbv
    · rw [e, e'] at hb
      rw [if_neg (by omega)]
      exact refAppend_bad62 hb s1 name hs hr bv bs hbv
  rw [if_neg hr]
  have hr' : rn name = true := by simpa using hr
  cases hl : lookD a.dir name.data.toList with
  | none =>
    rcases hrg with ⟨e, e'⟩ | ⟨e, e'⟩ | ⟨e, e'⟩
    · rw [e, e'] at hb
      show Calls _ _ _ w (DStep r base w (if a.err = 0 then 3 else 6, a.begun))
      rw [if_pos e]
      exact refAppend_none00 hb s1 name hs hr' (look_neg hl) bv bs hbv
    · rw [e, e'] at hb
      show Calls _ _ _ w (DStep r base w (if a.err = 0 then 3 else 6, a.begun))
      rw [if_neg (by omega)]
      exact refAppend_none61 hb s1 name hs hr' (look_neg hl) bv bs hbv
    · rw [e, e'] at hb
      show Calls _ _ _ w (DStep r base w (if a.err = 0 then 3 else 6, a.begun))
      rw [if_neg (by omega)]
      exact refAppend_none62 hb s1 name hs hr' (look_neg hl) bv bs hbv
  | some f =>
    obtain ⟨j, hj, hj1, hj2⟩ := look_at hl
    obtain ⟨m, hm1, hm2⟩ := hi.tidyD.lt _ (List.getElem_mem hj)
    rw [hj1] at hm1
    subst hm1
    have hfm : a.begun.files[m]? = some (a.files[m].1, a.files[m].2) := List.getElem?_eq_getElem hm2
    have eb : a.begun.bytesAt (m : Int) = a.files[m].1 := by simp [RA.bytesAt, RA.begun, hm2]
    have ek : a.begun.keptAt (m : Int) = a.files[m].2 := by simp [RA.keptAt, RA.begun, hm2]
    have hlen := (hi.len _ (List.getElem_mem hm2)).1
    have hw : a.begun.whole := hi.whole
    have hu : a.begun.used ≤ 1000000000000 := by have := hi.used_b hk; show a.used ≤ _; omega
    have hlb : a.files[m].1.length + bs.length ≤ 1000000000 := by omega
    have ea : ∀ xs, a.begun.addAt (m : Int) xs = a.begun.add m (a.files[m].1 ++ xs, a.files[m].2) := fun xs => by unfold RA.addAt; rw [eb, ek, Int.toNat_natCast]
    show Calls _ _ _ w (DStep r base w (if ¬ a.fits bs.length then _ else _))
    by_cases hfit : a.fits bs.length
    · rw [if_neg (fun hn => hn hfit)]
      rcases hrg with ⟨e, e'⟩ | ⟨e, e'⟩ | ⟨e, e'⟩
      · rw [e, e'] at hb
        rw [if_pos e, ea]
        by_cases h0 : bs.length = 0
        · exact refAppend_nil00 (a := a.begun) s1 s3 hw hu name hs hr' j m hj hj2 hj1 _ _ hfm bv bs hbv hlb hb h0
        · exact refAppend_some00 (a := a.begun) s1 s3 hw hu name hs hr' j m hj hj2 hj1 _ _ hfm bv bs hbv hlb hb hi.cap0 hi.cap1 (by omega) (by rcases hfit with e2 | e2; exact absurd e2 h0; exact e2)
      · rw [e, e'] at hb
        rw [if_neg (by omega), if_neg (by omega)]
        by_cases h0 : bs.length = 0
        · exact refAppend_nil61 (a := a.begun) s1 s3 hw hu name hs hr' j m hj hj2 hj1 _ _ hfm bv bs hbv hlb hb h0
        · exact refAppend_some61 (a := a.begun) s1 s3 hw hu name hs hr' j m hj hj2 hj1 _ _ hfm bv bs hbv hlb hb hi.cap0 hi.cap1 (by omega) (by rcases hfit with e2 | e2; exact absurd e2 h0; exact e2)
      · rw [e, e'] at hb
        rw [if_neg (by omega), if_pos e', ea]
        by_cases h0 : bs.length = 0
        · exact refAppend_nil62 (a := a.begun) s1 s3 hw hu name hs hr' j m hj hj2 hj1 _ _ hfm bv bs hbv hlb hb h0
        · exact refAppend_some62 (a := a.begun) s1 s3 hw hu name hs hr' j m hj hj2 hj1 _ _ hfm bv bs hbv hlb hb hi.cap0 hi.cap1 (by omega) (by rcases hfit with e2 | e2; exact absurd e2 h0; exact e2)
    · rw [if_pos hfit]
      have hfit' : ¬ bs.length = 0 ∧ ¬ (bs.length : Int) ≤ a.cap - (a.used : Int) := by
        unfold RA.fits at hfit
        exact ⟨fun e => hfit (Or.inl e), fun e => hfit (Or.inr e)⟩
      rcases hrg with ⟨e, e'⟩ | ⟨e, e'⟩ | ⟨e, e'⟩
      · rw [e, e'] at hb
        rw [if_pos e]
        exact refAppend_full00 (a := a.begun) s1 s3 hw hu name hs hr' j m hj hj2 hj1 _ _ hfm bv bs hbv hlb hb hi.cap0 hi.cap1 (by omega) (by show a.cap - (a.used : Int) < _; omega)
      · rw [e, e'] at hb
        rw [if_neg (by omega)]
        exact refAppend_full61 (a := a.begun) s1 s3 hw hu name hs hr' j m hj hj2 hj1 _ _ hfm bv bs hbv hlb hb hi.cap0 hi.cap1 (by omega) (by show a.cap - (a.used : Int) < _; omega)
      · rw [e, e'] at hb
        rw [if_neg (by omega)]
        exact refAppend_full62 (a := a.begun) s1 s3 hw hu name hs hr' j m hj hj2 hj1 _ _ hfm bv bs hbv hlb hb hi.cap0 hi.cap1 (by omega) (by show a.cap - (a.used : Int) < _; omega)
end

end Go.Proofs.Ytipakfdebccchaa
