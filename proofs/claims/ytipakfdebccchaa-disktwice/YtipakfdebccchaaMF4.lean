/- The program's Crash says the document's. -/
import Derived.Test.YtipakfdebccchaaMF3
namespace Go.Proofs.Ytipakfdebccchaa
open Go.RowKit Go.Maps Go.Sort

def notStr (p : Lit × DataW Unit) : Bool := match p.1 with
  | .string _ => false
  | _ => true
/-- All keys are texts, none twice. -/
structure Fair (D : DataW Unit) : Prop where
  tidy : Tidy D
  strs : ∀ es, D = .map es → es.any notStr = false
theorem any_filter_le {α : Type} {f g : α → Bool} {l : List α} (h : l.any f = false) : (l.filter g).any f = false := by
  rw [List.any_eq_false] at *
  intro x hx
  exact h x (List.mem_filter.1 hx).1
theorem Fair.put {D : DataW Unit} (h : Fair D) (x : List UInt8) (d : DataW Unit) : Fair (D.put (.string x) d) := by
  refine ⟨h.tidy.put (str_key x) d, fun es he => ?_⟩
  obtain ⟨es0, rfl, _⟩ := h.tidy
  simp only [DataW.put, DataW.map.injEq] at he
  subst he
  rw [any_insert, any_filter_le (h.strs es0 rfl)]
  rfl
theorem Fair.del {D : DataW Unit} (h : Fair D) (x : List UInt8) : Fair (D.del (.string x)) := by
  refine ⟨h.tidy.del _, fun es he => ?_⟩
  obtain ⟨es0, rfl, _⟩ := h.tidy
  simp only [DataW.del, DataW.map.injEq] at he
  subst he
  exact any_filter_le (h.strs es0 rfl)
theorem Fair.done {D : DataW Unit} (h : Fair D) (old name : ByteArray) (f : DataW Unit) : Fair (doD D old name f) := by
  unfold doD
  simp only
  split
  · split
    · exact h
    · exact h.del _
  · split
    · exact h.put _ _
    · exact (h.del _).put _ _
theorem Fair.fold : ∀ (l : List (ByteArray × ByteArray × Option Addr)) {D : DataW Unit}, Fair D → Fair (foldD D l)
  | [], _, h => h
  | c :: r, _D, h => Fair.fold r (h.done c.1 c.2.1 (pdD c.2.2))
theorem Fair.owned {w : World} {b m : Nat} {D : DataW Unit} (hown : w.ownsMap Try.prog 9 fileElem b m D) : Fair D := by
  refine ⟨hown.tidy law9, fun es he => ?_⟩
  obtain ⟨es', e, hk⟩ := hown.keysOf
  rw [he] at e
  cases e
  rw [List.any_eq_false]
  intro p hp
  obtain ⟨x, hx⟩ := hk p hp
  obtain ⟨y, _, h2, _⟩ := Maps.keyOf_str Try.underlying9 hx
  simp [notStr, h2]
theorem notStr_str {p : Lit × DataW Unit} (h : ¬ notStr p = true) : ∃ x, p.1 = .string x := by
  unfold notStr at h
  split at h
  · rename_i x e
    exact ⟨x, e⟩
  · exact absurd rfl h
theorem MapIs.risen2 {blk : List Nat} {D : DataW Unit} {l : List (ByteArray × Int)} (h : MapIs blk D l) {n : Nat} (ht : TidyD n l) (hf : Fair D) (p : List UInt8) : Ytipakfdebccchaa.risen D p = namesL l p := by
  unfold Ytipakfdebccchaa.risen namesL
  refine mergeSort_of_perm (List.Perm.filter _ ?_)
  have hs := hf.strs
  obtain ⟨es, rfl, hes⟩ := hf.tidy
  refine (perm_strKeys hes (fun q hq => ?_) ?_ (fun x => ?_)).symm
  · have h1 := hs es rfl
    rw [List.any_eq_false] at h1
    exact notStr_str (h1 q hq)
  · rw [List.Nodup, List.pairwise_map]
    exact ht.names
  · rw [h.has x, List.mem_map]
    constructor
    · rintro ⟨e, he, rfl⟩
      rw [mem_lookD ht.names he]
      rfl
    · intro hx
      obtain ⟨f, hf⟩ := Option.isSome_iff_exists.1 hx
      obtain ⟨e, h1, h2, _⟩ := lookD_mem hf
      exact ⟨e, h1, h2⟩
theorem MapIs.key {blk : List Nat} {D : DataW Unit} {l : List (ByteArray × Int)} (h : MapIs blk D l) (hf : Fair D) {x : List UInt8} (hx : x ∈ strKeys D) : ∃ f, lookD l x = some f := by
  have hs := hf.strs
  obtain ⟨es, rfl, _⟩ := hf.tidy
  have hx' : x ∈ es.map fun p => strOf p.1 := hx
  rw [List.mem_map] at hx'
  obtain ⟨p, hp, rfl⟩ := hx'
  have h1 := hs es rfl
  rw [List.any_eq_false] at h1
  obtain ⟨y, hy⟩ := notStr_str (h1 p hp)
  have h2 : Maps.has (.map es) (.string y) = true := by
    rw [has_eq, List.any_eq_true]
    refine ⟨p, hp, ?_⟩
    rw [hy]
    exact WideAt.sameKey_self (str_key y)
  have e : strOf p.1 = y := by rw [hy]; rfl
  rw [e]
  rw [h.has] at h2
  exact Option.isSome_iff_exists.1 h2

section
variable {blk : List Nat} {D : DataW Unit} {dir : List (ByteArray × Int)} {n : Nat} (hD : MapIs blk D dir) (ht : TidyD n dir) (hn : n = blk.length) (hnd : blk.Nodup) (fs : Nat → FileV) (files : List (List UInt8 × Int)) (hfl : files.length = blk.length) (cs : List Int)
  (hfile : ∀ i (hi : i < blk.length), files[i]? = some ((fs blk[i]).bs, ((fs blk[i]).dur : Int))) (hle : ∀ f, f ∈ blk → (fs f).dur ≤ (fs f).bs.length)
include hD ht hn

omit ht hn in
theorem fileOf_look {x : List UInt8} {m : Nat} (hl : lookD dir x = some (m : Int)) (hm : m < blk.length) : fileOf D x = blk[m] := by
  refine fileOf_eq ?_
  rw [hD.at_, hl]
  simp [nameV, List.getD, hm]

theorem crash_step {j : Nat} (hj : j < (namesL dir []).length) : ∃ m, ∃ hm : m < blk.length, lookD dir (namesL dir [])[j] = some (m : Int) ∧ fileOf D ((namesL dir []).getD j []) = blk[m] := by
  obtain ⟨m, h1, h2⟩ := namesL_look ht (List.getElem_mem hj)
  have hm : m < blk.length := by omega
  refine ⟨m, hm, h1, ?_⟩
  have e : (namesL dir []).getD j [] = (namesL dir [])[j] := by simp [List.getD, hj]
  rw [e]
  exact fileOf_look hD h1 hm

include hnd hfl hfile hle
theorem crash_rel : ∀ j, j ≤ (namesL dir []).length → ∀ i (hi : i < blk.length), (crashF dir cs (namesL dir []) files j)[i]? = some ((crashTo D cs (namesL dir []) fs j blk[i]).bs, ((crashTo D cs (namesL dir []) fs j blk[i]).dur : Int)) ∧ (crashTo D cs (namesL dir []) fs j blk[i]).dur ≤ (crashTo D cs (namesL dir []) fs j blk[i]).bs.length
  | 0, _, i, hi => ⟨hfile i hi, hle _ (List.getElem_mem hi)⟩
  | j + 1, hj, i, hi => by
    have ih := crash_rel j (by omega)
    obtain ⟨m, hm, h1, h2⟩ := crash_step hD ht hn (show j < (namesL dir []).length by omega)
    obtain ⟨h3, h4⟩ := ih m hm
    rw [crashF_succ dir cs (namesL dir []) files (show j < (namesL dir []).length by omega) h1 h3]
    simp only [crashTo, h2]
    have hcl := cutN_le cs (j + 1) ((crashTo D cs (namesL dir []) fs j blk[m]).bs.length - (crashTo D cs (namesL dir []) fs j blk[m]).dur)
    by_cases e : i = m
    · subst e
      rw [List.getElem?_set_self (by rw [crashF_length, hfl]; exact hm), if_pos rfl]
      refine ⟨rfl, ?_⟩
      simp only [FileV.crash, FileV.cut, List.length_take]
      omega
    · have e2 : ¬ blk[i] = blk[m] := fun e' => e ((List.getElem_inj hnd).1 e')
      rw [List.getElem?_set_ne (fun e' => e e'.symm), if_neg e2]
      exact ih i hi
omit hn hnd hfl hfile hle in
theorem crashTo_stay {i m : Nat} (hi : i < (namesL dir []).length) (hm : m < blk.length) (hl : lookD dir (namesL dir [])[i] = some (m : Int)) (hn : n = blk.length) (hnd : blk.Nodup) : ∀ d, i + 1 + d ≤ (namesL dir []).length → crashTo D cs (namesL dir []) fs (i + 1 + d) blk[m] = crashTo D cs (namesL dir []) fs (i + 1) blk[m]
  | 0, _ => rfl
  | d + 1, hd => by
    have ih := crashTo_stay hi hm hl hn hnd d (by omega)
    obtain ⟨m2, hm2, h1, h2⟩ := crash_step hD ht hn (show i + 1 + d < (namesL dir []).length by omega)
    have e : crashTo D cs (namesL dir []) fs (i + 1 + (d + 1)) blk[m] = if blk[m] = fileOf D ((namesL dir []).getD (i + 1 + d) []) then (crashTo D cs (namesL dir []) fs (i + 1 + d) blk[m]).crash cs (i + 1 + d) else crashTo D cs (namesL dir []) fs (i + 1 + d) blk[m] := rfl
    rw [e, h2, if_neg, ih]
    intro e2
    have e3 : m = m2 := (List.getElem_inj hnd).1 e2
    subst e3
    have e4 := look_inj ht hl h1
    have e5 := (List.getElem_inj (namesL_nodup ht)).1 e4
    omega

theorem crash_dur {j : Nat} (hj : j < (namesL dir []).length) {m : Nat} (hm : m < blk.length) (hl : lookD dir (namesL dir [])[j] = some (m : Int)) : (crashTo D cs (namesL dir []) fs (j + 1) blk[m]).dur = (((crashF dir cs (namesL dir []) files (namesL dir []).length)[m]?).map fun x => x.1.length).getD 0 := by
  obtain ⟨m2, hm2, h1, h2⟩ := crash_step hD ht hn hj
  have e0 : m2 = m := by
    rw [hl] at h1
    simp at h1
    omega
  subst e0
  have h3 := (crash_rel hD ht hn hnd fs files hfl cs hfile hle (namesL dir []).length (Nat.le_refl _) m2 hm).1
  have h4 := crashTo_stay hD ht fs cs hj hm hl hn hnd ((namesL dir []).length - (j + 1)) (by omega)
  rw [show j + 1 + ((namesL dir []).length - (j + 1)) = (namesL dir []).length by omega] at h4
  rw [h3, h4]
  simp only [Option.map_some, Option.getD_some]
  have h5 := (crash_rel hD ht hn hnd fs files hfl cs hfile hle j (by omega) m2 hm).2
  have hcl := cutN_le cs (j + 1) ((crashTo D cs (namesL dir []) fs j blk[m2]).bs.length - (crashTo D cs (namesL dir []) fs j blk[m2]).dur)
  simp only [crashTo, h2, if_true, FileV.crash, FileV.cut, List.length_take]
  omega

theorem crash_used (lenA : Int → Nat) (hlen : ∀ m : Nat, lenA m = (((crashF dir cs (namesL dir []) files (namesL dir []).length)[m]?).map fun x => x.1.length).getD 0) : usedTo D cs (namesL dir []) fs (namesL dir []).length = ((sumD lenA dir : Nat) : Int) := by
  have key : ∀ j, j ≤ (namesL dir []).length → usedTo D cs (namesL dir []) fs j = ((((namesL dir []).take j).map fun x => lenA ((lookD dir x).getD 0)).sum : Nat) := by
    intro j
    induction j with
    | zero => intro _; simp [usedTo]
    | succ j ih =>
      intro hj
      have hj' : j < (namesL dir []).length := by omega
      obtain ⟨m, hm, h1, h2⟩ := crash_step hD ht hn hj'
      have h3 := crash_dur hD ht hn hnd fs files hfl cs hfile hle hj' hm h1
      have e : usedTo D cs (namesL dir []) fs (j + 1) = usedTo D cs (namesL dir []) fs j + (crashTo D cs (namesL dir []) fs (j + 1) (fileOf D ((namesL dir []).getD j []))).dur := rfl
      rw [e, h2, ih (by omega), h3, ← hlen m, List.take_succ_eq_append_getElem hj', List.map_append, List.sum_append]
      simp [h1]
  rw [key _ (Nat.le_refl _), List.take_length]
  have hp := ((namesL_perm dir).map fun x => lenA ((lookD dir x).getD 0)).sum_nat
  rw [hp]
  unfold sumD
  rw [List.map_map]
  congr 2
  refine List.map_congr_left (fun e he => ?_)
  simp [mem_lookD ht.names he]
end

theorem crashTo_block (D : DataW Unit) (cs : List Int) (ts : List (List UInt8)) (fs : Nat → FileV) (f : Nat) : ∀ k, (crashTo D cs ts fs k f).v.ownBlock = (fs f).v.ownBlock
  | 0 => rfl
  | k + 1 => by
    simp only [crashTo]
    split
    · simp only [FileV.crash, FileV.cut, ownBlock_cutV]
      exact crashTo_block D cs ts fs f k
    · exact crashTo_block D cs ts fs f k

theorem P_crash {w : World} {d base k c : Nat} {Z : Nat → Prop} {a : RA} {s : St} {fs : Nat → FileV} {blk : List Nat} (h : PS w d base k Z a s fs blk) (hi : Inv k c a) (hk : k ≤ 1000) (hc : c ≤ 1000) (cv : Value) (cs : List Int) (hcv : CutsAt w cv cs) (hlow : ∀ b o l c, cv = .slice (some ⟨b, o, none⟩) l c → cs ≠ [] → ¬ (s.own d b ∨ b ∈ blk)) :
    Calls Try.prog 11 #[.pointer (some ⟨d, 0, none⟩), cv] w fun e w' => e = .returned (.tuple #[]) ∧ PIs w' d base (k + 1) (newZ Z w w') (a.crash cs) ∧ KP Z base w w' := by
  obtain ⟨b1, b2, b3, b4, b5, b6, b7⟩ := h.bounds hi hk hc
  have hpl : s.pend.length = a.pend.length := by rw [h.pend, List.length_map]
  have hok : ∀ x, x ∈ s.pend → OkCh x := fun x hx => by
    rw [h.pend, List.mem_map] at hx
    obtain ⟨p, hp, rfl⟩ := hx
    exact pe_ok (hi.okp p hp) blk
  have hcl := cutN_le cs 0 a.pend.length
  have htk : s.pend.take (cutN cs 0 s.pend.length) = (a.pend.take (cutN cs 0 a.pend.length)).map (pe blk) := by rw [hpl, h.pend, List.map_take]
  have hfair : Fair (foldD s.D (s.pend.take (cutN cs 0 s.pend.length))) := Fair.fold _ (Fair.owned h.disk.mD)
  have hmap : MapIs blk (foldD s.D (s.pend.take (cutN cs 0 s.pend.length))) (a.crashDir cs) := by
    rw [htk]
    exact h.mD.fold _ (fun p hp => hi.okp p (List.mem_of_mem_take hp))
  have htidy : TidyD a.files.length (a.crashDir cs) := hi.tidy _ hcl
  have hris := hmap.risen2 htidy hfair []
  have hflen := h.len.symm
  generalize hD1 : foldD s.D (s.pend.take (cutN cs 0 s.pend.length)) = D1 at *
  refine (crash_any h.disk h.files cv cs hcv (fun b o l c e hne e' => ?_) b4 hok (cutN cs 0 s.pend.length) rfl (fun x hx => ?_) (fun f hf => ?_) (risen D1 []) (by rw [hD1])).mono ?_
  · exact hlow b o l c e hne e'
  · rw [hD1] at hx ⊢
    obtain ⟨f, hf⟩ := hmap.key hfair hx
    obtain ⟨e, he, _, he2⟩ := lookD_mem hf
    obtain ⟨m, hm1, hm2⟩ := htidy.lt e he
    have hm : m < blk.length := by omega
    refine ⟨blk[m], List.getElem_mem hm, ?_⟩
    rw [hmap.at_, hf, ← he2, hm1]
    simp [nameV, List.getD, hm]
  · obtain ⟨i, hi', rfl⟩ := List.getElem_of_mem hf
    have := (hi.len _ (List.mem_of_getElem? (h.file i hi'))).1
    simp only at this
    omega
  · rintro e w' ⟨rfl, nb', hnb, hI, hF, hkk⟩
    rw [hD1, hris] at hI hF
    have hrel := crash_rel hmap htidy h.len.symm h.nodup fs a.files hflen cs h.file h.files.le (namesL (a.crashDir cs) []).length (Nat.le_refl _)
    refine ⟨rfl, ⟨_, _, blk, hI, hF, h.nodup, ?_, ?_, h.cap, rfl, h.ops, hmap, hmap, rfl, ?_, ?_, ?_, ?_, h.blo, ?_, ?_⟩, ?_⟩
    · show blk.length = (crashF _ _ _ _ _).length
      rw [crashF_length, h.len]
    · intro i hi'
      exact (hrel i hi').1
    · exact crash_used hmap htidy h.len.symm h.nodup fs a.files hflen cs h.file h.files.le (a.crash cs).lenAt (fun m => by simp [RA.lenAt, RA.crash])
    · exact ⟨isMap_empty, fun t _ => rfl, fun t _ => rfl⟩
    · show s.n + cutN cs 0 s.pend.length ≤ (k + 1) * 1000
      have h4 := hi.np
      have := h.n
      rw [Nat.add_mul, hpl]
      omega
    · intro i hi'
      rcases hi' with e | e | e | e | e
      · exact h.own i (Or.inl e)
      · have e' : i = nb' := e
        have := h.room
        omega
      · exact h.own i (Or.inr (Or.inr (Or.inl e)))
      · exact h.own i (Or.inr (Or.inr (Or.inr (Or.inl e))))
      · cases e
    · intro f hf b hb
      rw [crashTo_block] at hb
      exact Or.inl (h.zone f hf b hb)
    · intro b hb
      rcases hb with hb | hb
      · exact ⟨(h.zlo b hb).1, Nat.lt_of_lt_of_le (h.zlo b hb).2 hkk.size⟩
      · exact ⟨Nat.le_trans h.room hb.1, hb.2⟩
    · refine hkk.mono (fun i _ e => ?_)
      rcases e with e | e
      · exact h.po_own i e
      · exact h.po_file i e

end Go.Proofs.Ytipakfdebccchaa
