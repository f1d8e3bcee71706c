/- Each operation as a function of what the disk says; the program's Create, Remove, Rename, SyncDir, Sync. -/
import Derived.Test.YtipakfdebccchaaMWr
namespace Go.Proofs.Ytipakfdebccchaa
open Go.RowKit Go.Maps Go.Sort

def RA.doCreate (a : RA) (name : ByteArray) : Int × RA := if a.err ≠ 0 then (a.err, a.begun) else if rn name = false then (2, a.begun) else if (lookD a.dir name.data.toList).isSome = true then (4, a.begun) else (0, a.begun.create name)
def RA.doRemove (a : RA) (name : ByteArray) : Int × RA := if a.err ≠ 0 then (a.err, a.begun) else if rn name = false then (2, a.begun) else if (lookD a.dir name.data.toList).isSome = false then (3, a.begun) else (0, a.begun.remove name)
def RA.bytesAt (a : RA) (f : Int) : List UInt8 := ((a.files[f.toNat]?).map Prod.fst).getD []
def RA.keptAt (a : RA) (f : Int) : Int := ((a.files[f.toNat]?).map Prod.snd).getD 0
def RA.doSync (a : RA) (name : ByteArray) : Int × RA := if a.err ≠ 0 then (a.err, a.begun) else if rn name = false then (2, a.begun) else match lookD a.dir name.data.toList with
  | none => (3, a.begun)
  | some f => (0, a.begun.sync f.toNat (a.bytesAt f))
def RA.doSyncDir (a : RA) : Int × RA := if a.err ≠ 0 then (a.err, a.begun) else (0, a.begun.syncDir)
def RA.doRename (a : RA) (old name : ByteArray) : Int × RA := if a.err ≠ 0 then (a.err, a.begun) else if (rn old && rn name) = false then (2, a.begun) else match lookD a.dir old.data.toList with
  | none => (3, a.begun)
  | some f => if old.data.toList = name.data.toList then (0, a.begun) else (0, a.begun.rename old name f)
def RA.fits (a : RA) (m : Nat) : Prop := m = 0 ∨ (m : Int) ≤ a.cap - (a.used : Int)
instance (a : RA) (m : Nat) : Decidable (a.fits m) := inferInstanceAs (Decidable (_ ∨ _))
def RA.addAt (a : RA) (f : Int) (xs : List UInt8) : RA := a.add f.toNat (a.bytesAt f ++ xs, a.keptAt f)
def RA.doAppend (a : RA) (name : ByteArray) (bs : List UInt8) : Int × RA := if a.err = 7 then (7, a.begun) else if rn name = false then (if a.err = 0 then 2 else 6, a.begun) else match lookD a.dir name.data.toList with
  | none => (if a.err = 0 then 3 else 6, a.begun)
  | some f => if ¬ a.fits bs.length then (if a.err = 0 then 5 else 6, a.begun) else if a.err = 0 then (0, a.begun.addAt f bs) else if a.hit = 2 then (6, a.begun.addAt f (bs.take (bs.length / 2))) else (6, a.begun)

/-- What a step of the program's disk comes to. -/
def PStep (d base k : Nat) (Z : Nat → Prop) (w : World) (r : Int × RA) (e : Ending) (w' : World) : Prop := e = .returned (.int .i64 r.1) ∧ PIs w' d base (k + 1) (newZ Z w w') r.2 ∧ KP Z base w w'

theorem Inv.used_b {k c : Nat} {a : RA} (h : Inv k c a) (hk : k ≤ 1000) : a.used ≤ 200000000 := Nat.le_trans h.used_le (Nat.mul_le_mul hk (Nat.mul_le_mul_left 200 hk))

section
variable {w : World} {d base k c : Nat} {Z : Nat → Prop} {a : RA} {s : St} {fs : Nat → FileV} {blk : List Nat} (h : PS w d base k Z a s fs blk) (hi : Inv k c a) (hk : k ≤ 1000) (hc : c ≤ 1000)
include h hi hk hc

theorem PS.bounds : s.ops < 1000000000 ∧ s.n < 1000000000 ∧ s.pend.length < 1000000000 ∧ s.n + s.pend.length < 1000000000 ∧ (0 ≤ s.used ∧ s.used ≤ 1000000000000) ∧ 0 ≤ s.cap ∧ s.cap ≤ 9223372036854775807 := by
  have h1 := hi.c1
  have h2 := h.n
  have h3 : k * 1000 ≤ 1000 * 1000 := Nat.mul_le_mul_right _ hk
  have h4 : s.pend.length ≤ k := by rw [h.pend, List.length_map]; exact hi.np
  have h5 := hi.used_b hk
  have h6 := h.ops
  have h7 := h.used
  have h8 := hi.cap0
  have h9 := hi.cap1
  have h10 := h.cap
  refine ⟨by omega, by omega, by omega, by omega, ⟨by omega, by omega⟩, by omega, by omega⟩
omit hk in
theorem PS.errs : s.err = a.err ∧ s.torn = decide (a.hit = 2) := err_same h.flt (fun x hx => (hi.fq x hx).1) h.ops (by have := hi.c1; omega) h.stop
omit h hk hc in
theorem Inv.calm : ∀ x, x ∈ a.faults → 0 ≤ x.1 := fun x hx => (hi.fq x hx).1

theorem P_syncDir : Calls Try.prog 36 #[.pointer (some ⟨d, 0, none⟩)] w (PStep d base k Z w a.doSyncDir) := by
  obtain ⟨b1, b2, b3, b4, b5, b6, b7⟩ := h.bounds hi hk hc
  obtain ⟨e1, e2⟩ := h.errs hi hc
  have hq := hi.calm
  unfold RA.doSyncDir
  by_cases hE : a.err ≠ 0
  · rw [if_pos hE]
    refine (syncDir_refused h.disk b1 (by rw [e1]; exact hE)).mono ?_
    rintro e w' ⟨rfl, hI, hkk⟩
    exact ⟨by rw [e1], h.begun hq hI hkk⟩
  · rw [if_neg hE]
    have hE' : s.err = 0 := by rw [e1]; omega
    have hok : ∀ x, x ∈ s.pend → OkCh x := fun x hx => by
      rw [h.pend, List.mem_map] at hx
      obtain ⟨p, hp, rfl⟩ := hx
      exact pe_ok (hi.okp p hp) blk
    refine (syncDir_ok h.disk b1 hE' b4 hok).mono ?_
    rintro e w' ⟨rfl, hI, hkk⟩
    refine ⟨rfl, h.turn hI hkk (fun i hi' => ?_) rfl h.cap ?_ ?_ h.mN ?_ rfl h.used ?_ ?_⟩
    · rcases hi' with e | e | e | e | e
      · exact Or.inl (Or.inl e)
      · exact Or.inl (Or.inr (Or.inl e))
      · exact Or.inl (Or.inr (Or.inr (Or.inl e)))
      · exact Or.inl (Or.inr (Or.inr (Or.inr (Or.inl e))))
      · cases e
    · show bStop s.stop = rStop a.stop
      rw [h.stop]
      rfl
    · show s.ops + 1 = a.cnt + 1
      rw [h.ops]
    · show MapIs blk (foldD s.D s.pend) a.dir
      rw [hi.dir, h.pend]
      exact h.mD.fold a.pend hi.okp
    · show FaultIs (s.F.del (.int .i64 s.ops)) (a.cnt + 1) (qLeft a.faults)
      rw [h.ops]
      exact h.flt.begun hq
    · show s.n + s.pend.length ≤ (k + 1) * 1000
      have h4 : s.pend.length ≤ k := by rw [h.pend, List.length_map]; exact hi.np
      have := h.n
      rw [Nat.add_mul]
      omega

omit h hk hc in
theorem used_unset {name : ByteArray} {f : Int} (hl : lookD a.dir name.data.toList = some f) : (sumD a.lenAt (unsetL a.dir name) : Int) = a.used - a.lenAt f := by
  have := sumD_unset a.lenAt hi.tidyD.names hl
  rw [RA.used_sum]
  omega

theorem P_remove (name : ByteArray) (hs : name.size ≤ maxLen) : Calls Try.prog 56 #[.pointer (some ⟨d, 0, none⟩), .string name] w (PStep d base k Z w (a.doRemove name)) := by
  obtain ⟨b1, b2, b3, b4, b5, b6, b7⟩ := h.bounds hi hk hc
  obtain ⟨e1, e2⟩ := h.errs hi hc
  have hq := hi.calm
  unfold RA.doRemove
  by_cases hE : a.err ≠ 0
  · rw [if_pos hE]
    refine (remove_refused h.disk b1 name (by rw [e1]; exact hE)).mono ?_
    rintro e w' ⟨rfl, hI, hkk⟩
    exact ⟨by rw [e1], h.begun hq hI hkk⟩
  rw [if_neg hE]
  have hE' : s.err = 0 := by rw [e1]; omega
  by_cases hr : rn name = false
  · rw [if_pos hr]
    refine (remove_bad h.disk b1 hE' name hs hr).mono ?_
    rintro e w' ⟨rfl, hI, hkk⟩
    exact ⟨rfl, h.begun hq hI hkk⟩
  rw [if_neg hr]
  have hr' : rn name = true := by simpa using hr
  cases hl : lookD a.dir name.data.toList with
  | none =>
    rw [if_pos (by rfl)]
    refine (remove_none h.disk b1 hE' name hs hr' (h.lost hl)).mono ?_
    rintro e w' ⟨rfl, hI, hkk⟩
    exact ⟨rfl, h.begun hq hI hkk⟩
  | some f =>
    rw [if_neg (by simp)]
    obtain ⟨m, hm, rfl, hat, hfile⟩ := h.found hl hi.tidyD
    have hmem : blk[m] ∈ blk := List.getElem_mem hm
    have hlen := (hi.len _ (List.mem_of_getElem? hfile)).1
    have hz := (rn_size hr').2
    have hlen' : (fs blk[m]).bs.length ≤ 200 * k := hlen
    refine (remove_ok h.disk b1 hE' name hr' (by omega) blk[m] hat _ _ _ (h.files.at_ _ hmem) (h.files.own _ hmem) b2 b3 b5 (by omega)).mono ?_
    rintro e w' ⟨rfl, pv', hI, hpv, hkk⟩
    refine ⟨rfl, h.turn hI hkk (fun i hi' => ?_) rfl h.cap ?_ ?_ ?_ h.mD ?_ ?_ ?_ ?_⟩
    · rcases hi' with e | e | e | e | e
      · exact Or.inl (Or.inl e)
      · exact Or.inl (Or.inr (Or.inl e))
      · exact Or.inl (Or.inr (Or.inr (Or.inl e)))
      · exact Or.inl (Or.inr (Or.inr (Or.inr (Or.inl e))))
      · have e' : pv'.ownBlock = some i := e
        rcases hpv with e2 | ⟨g, e2, hg⟩
        · rw [e2] at e'
          exact Or.inl (Or.inr (Or.inr (Or.inr (Or.inr e'))))
        · rw [e2] at e'
          cases e'
          exact Or.inr hg
    · show bStop s.stop = rStop a.stop
      rw [h.stop]
      rfl
    · show s.ops + 1 = a.cnt + 1
      rw [h.ops]
    · exact h.mN.del name
    · show s.pend ++ [(name, ByteArray.empty, none)] = (a.pend ++ [(3, ByteArray.empty, name, 0)]).map (pe blk)
      rw [List.map_append, h.pend]
      rfl
    · show s.used - ((fs blk[m]).bs.length : Int) = ((sumD a.lenAt (unsetL a.dir name) : Nat) : Int)
      have e3 : a.lenAt (m : Int) = (fs blk[m]).bs.length := by simp [RA.lenAt, hfile]
      rw [used_unset hi hl, h.used, e3]
    · show FaultIs (s.F.del (.int .i64 s.ops)) (a.cnt + 1) (qLeft a.faults)
      rw [h.ops]
      exact h.flt.begun hq
    · show s.n + 1 ≤ (k + 1) * 1000
      have := h.n
      rw [Nat.add_mul]
      omega

theorem P_rename (old name : ByteArray) (hs : old.size ≤ maxLen) (hs2 : name.size ≤ maxLen) : Calls Try.prog 54 #[.pointer (some ⟨d, 0, none⟩), .string old, .string name] w (PStep d base k Z w (a.doRename old name)) := by
  obtain ⟨b1, b2, b3, b4, b5, b6, b7⟩ := h.bounds hi hk hc
  obtain ⟨e1, e2⟩ := h.errs hi hc
  have hq := hi.calm
  unfold RA.doRename
  by_cases hE : a.err ≠ 0
  · rw [if_pos hE]
    refine (rename_refused h.disk b1 old name (by rw [e1]; exact hE)).mono ?_
    rintro e w' ⟨rfl, hI, hkk⟩
    exact ⟨by rw [e1], h.begun hq hI hkk⟩
  rw [if_neg hE]
  have hE' : s.err = 0 := by rw [e1]; omega
  by_cases hr : (rn old && rn name) = false
  · rw [if_pos hr]
    refine (rename_bad h.disk b1 hE' old name hs hs2 hr).mono ?_
    rintro e w' ⟨rfl, hI, hkk⟩
    exact ⟨rfl, h.begun hq hI hkk⟩
  rw [if_neg hr]
  have hr0 : rn old = true ∧ rn name = true := by simpa using hr
  obtain ⟨h1, h2⟩ := hr0
  cases hl : lookD a.dir old.data.toList with
  | none =>
    refine (rename_none h.disk b1 hE' old name hs hs2 h1 h2 (h.lost hl)).mono ?_
    rintro e w' ⟨rfl, hI, hkk⟩
    exact ⟨rfl, h.begun hq hI hkk⟩
  | some f =>
    obtain ⟨m, hm, rfl, hat, hfile⟩ := h.found hl hi.tidyD
    by_cases he : old.data.toList = name.data.toList
    · show Calls _ _ _ w (PStep d base k Z w (if old.data.toList = name.data.toList then _ else _))
      rw [if_pos he]
      refine (rename_same h.disk b1 hE' old name hs hs2 h1 h2 blk[m] hat (nm_beq.2 he)).mono ?_
      rintro e w' ⟨rfl, hI, hkk⟩
      exact ⟨rfl, h.begun hq hI hkk⟩
    show Calls _ _ _ w (PStep d base k Z w (if old.data.toList = name.data.toList then _ else _))
    rw [if_neg he]
    have hz1 := (rn_size h1).2
    have hz2 := (rn_size h2).2
    have fin : ∀ (w' : World) (u : Int) (pv' : Value), u = ((sumD a.lenAt (setL (unsetL a.dir old) name (m : Int)) : Nat) : Int) → IsDisk w' d { s.begun with used := u, N := (s.N.del (.string old.data.toList)).put (.string name.data.toList) (.lit (.int .i64 (blk[m] : Nat))), pend := s.pend ++ [(old, name, some ⟨blk[m], 0, none⟩)], pv := pv', n := s.n + 1 } → (pv'.ownBlock = s.pv.ownBlock ∨ ∃ g, pv'.ownBlock = some g ∧ w.heap.size ≤ g) → Kept (s.own d) w w' → PStep d base k Z w (0, a.begun.rename old name (m : Int)) (.returned (.int .i64 0)) w' := by
      intro w' u pv' hu hI hpv hkk
      refine ⟨rfl, h.turn hI hkk (fun i hi' => ?_) rfl h.cap ?_ ?_ ?_ h.mD ?_ hu ?_ ?_⟩
      · rcases hi' with e | e | e | e | e
        · exact Or.inl (Or.inl e)
        · exact Or.inl (Or.inr (Or.inl e))
        · exact Or.inl (Or.inr (Or.inr (Or.inl e)))
        · exact Or.inl (Or.inr (Or.inr (Or.inr (Or.inl e))))
        · have e' : pv'.ownBlock = some i := e
          rcases hpv with e2 | ⟨g, e2, hg⟩
          · rw [e2] at e'
            exact Or.inl (Or.inr (Or.inr (Or.inr (Or.inr e'))))
          · rw [e2] at e'
            cases e'
            exact Or.inr hg
      · show bStop s.stop = rStop a.stop
        rw [h.stop]
        rfl
      · show s.ops + 1 = a.cnt + 1
        rw [h.ops]
      · have := (h.mN.del old).put name (m : Int)
        simp only [nameV, Int.toNat_natCast, List.getD, List.getElem?_eq_getElem hm, Option.getD_some] at this
        exact this
      · show s.pend ++ [(old, name, some ⟨blk[m], 0, none⟩)] = (a.pend ++ [(2, old, name, (m : Int))]).map (pe blk)
        rw [List.map_append, h.pend]
        simp [pe, List.getD, hm]
      · show FaultIs (s.F.del (.int .i64 s.ops)) (a.cnt + 1) (qLeft a.faults)
        rw [h.ops]
        exact h.flt.begun hq
      · show s.n + 1 ≤ (k + 1) * 1000
        have := h.n
        rw [Nat.add_mul]
        omega
    have hu0 := used_unset hi hl
    cases hl2 : lookD a.dir name.data.toList with
    | none =>
      refine (rename_new h.disk b1 hE' old name hs hs2 h1 h2 (by omega) (by omega) b2 b3 blk[m] hat (h.lost hl2) (nm_bne.2 he)).mono ?_
      rintro e w' ⟨rfl, pv', hI, hpv, hkk⟩
      refine fin w' s.used pv' ?_ hI hpv hkk
      have hl3 : lookD (unsetL a.dir old) name.data.toList = none := by rw [lookD_unset, if_neg (fun e => he e.symm)]; exact hl2
      have h4 := sumD_unset a.lenAt hi.tidyD.names hl
      rw [sumD_set, unset_none hl3, h.used, RA.used_sum]
      omega
    | some g0 =>
      obtain ⟨m2, hm2, rfl, hat2, hfile2⟩ := h.found hl2 hi.tidyD
      have hmem : blk[m2] ∈ blk := List.getElem_mem hm2
      have hlen := (hi.len _ (List.mem_of_getElem? hfile2)).1
      have hlen' : (fs blk[m2]).bs.length ≤ 200 * k := hlen
      refine (rename_over h.disk b1 hE' old name (by omega) (by omega) h1 h2 b2 b3 blk[m] blk[m2] hat hat2 (nm_bne.2 he) _ _ _ (h.files.at_ _ hmem) (h.files.own _ hmem) b5 (by omega)).mono ?_
      rintro e w' ⟨rfl, pv', hI, hpv, hkk⟩
      refine fin w' (s.used - (fs blk[m2]).bs.length) pv' ?_ hI hpv hkk
      have hl3 : lookD (unsetL a.dir old) name.data.toList = some (m2 : Int) := by rw [lookD_unset, if_neg (fun e => he e.symm)]; exact hl2
      have h4 := sumD_unset a.lenAt hi.tidyD.names hl
      have h5 := sumD_unset a.lenAt (hi.tidyD.unset old).names hl3
      have e3 : a.lenAt (m2 : Int) = (fs blk[m2]).bs.length := by simp [RA.lenAt, hfile2]
      rw [sumD_set, h.used, RA.used_sum]
      omega
end

end Go.Proofs.Ytipakfdebccchaa
