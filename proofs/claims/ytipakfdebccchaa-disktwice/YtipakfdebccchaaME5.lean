/- The program's Create, Sync and Append, as functions of what the disk says. -/
import Derived.Test.YtipakfdebccchaaME4
namespace Go.Proofs.Ytipakfdebccchaa
open Go.RowKit Go.Maps Go.Sort

theorem FileAt.lt {w : World} {f : Nat} {v : Value} {bs : List UInt8} {dur : Int} (h : FileAt w f v bs dur) : f < w.heap.size := (Array.getElem?_eq_some_iff.1 h.at_).1

section
variable {w : World} {d base k c : Nat} {Z : Nat → Prop} {a : RA} {s : St} {fs : Nat → FileV} {blk : List Nat} (h : PS w d base k Z a s fs blk)
include h

/-- A new file. -/
theorem PS.add {w' : World} {s' : St} {a' : RA} {f : Nat} (hf : w.heap.size ≤ f) (hat : w'.heap[f]? = some (.cells #[.slice none 0 0, .int .i64 0] 72)) (hI : IsDisk w' d s') (hk : Kept (s.own d) w w') (hown : ∀ i, s'.own d i → s.own d i ∨ w.heap.size ≤ i) (hfi : a'.files = a.files ++ [([], 0)])
    (cap : s'.cap = a'.cap) (stop : s'.stop = a'.stop) (ops : s'.ops = a'.cnt) (mN : MapIs (blk ++ [f]) s'.N a'.dir) (mD : MapIs (blk ++ [f]) s'.D a'.kept) (pend : s'.pend = a'.pend.map (pe (blk ++ [f]))) (used : s'.used = a'.used) (flt : FaultIs s'.F a'.cnt a'.faults) (n : s'.n ≤ (k + 1) * 1000) :
    PIs w' d base (k + 1) (newZ Z w w') a' ∧ KP Z base w w' := by
  have hne : ∀ g, g ∈ blk → g ≠ f := fun g hg e => by
    have := (h.files.at_ g hg).lt
    omega
  have hfs : ∀ g, g ∈ blk → (if g = f then (⟨.slice none 0 0, [], 0⟩ : FileV) else fs g) = fs g := fun g hg => if_neg (hne g hg)
  have hff : (if f = f then (⟨.slice none 0 0, [], 0⟩ : FileV) else fs f) = ⟨.slice none 0 0, [], 0⟩ := if_pos rfl
  have hold := h.files.kept (s' := s') hk h.file_own (fun f hf i hi => h.files.own f hf i hi) hown
  refine ⟨⟨s', fun g => if g = f then ⟨.slice none 0 0, [], 0⟩ else fs g, blk ++ [f], hI, ⟨?_, ?_, ?_, ?_⟩, ?_, ?_, ?_, cap, stop, ops, mN, mD, pend, used, flt, n, fun i hi => ?_, ?_, ?_, fun b hb => ?_⟩, hk.mono (fun i _ hi => h.po_own i hi)⟩
  · intro g hg
    rcases List.mem_append.1 hg with hg | hg
    · simp only [hfs g hg]
      exact hold.at_ g hg
    · rw [List.mem_singleton] at hg
      subst hg
      simp only
      exact ⟨hat, World.ownsRow_nil _ _ _ _⟩
  · intro g hg
    rcases List.mem_append.1 hg with hg | hg
    · simp only [hfs g hg]
      exact hold.le g hg
    · rw [List.mem_singleton] at hg
      subst hg
      simp only
      exact Nat.le_refl _
  · intro g hg g' hg' hgg i hi
    rcases List.mem_append.1 hg with hg | hg
    · simp only [hfs g hg] at hi
      rcases List.mem_append.1 hg' with hg' | hg'
      · simp only [hfs g' hg']
        exact hold.rows g hg g' hg' hgg i hi
      · rw [List.mem_singleton] at hg'
        subst hg'
        simp only
        exact fun e => by cases e
    · rw [List.mem_singleton] at hg
      subst hg
      simp only at hi
      cases hi
  · intro g hg i hi
    rcases List.mem_append.1 hg with hg | hg
    · simp only [hfs g hg] at hi
      exact hold.own g hg i hi
    · rw [List.mem_singleton] at hg
      subst hg
      simp only at hi
      cases hi
  · rw [List.nodup_append]
    refine ⟨h.nodup, by simp, fun x hx y hy e => ?_⟩
    rw [List.mem_singleton] at hy
    subst hy
    exact hne x hx e
  · rw [hfi, List.length_append, List.length_append, h.len]
    rfl
  · intro i hil
    rw [hfi]
    by_cases e : i < blk.length
    · rw [List.getElem?_append_left (by rw [← h.len]; exact e)]
      have e2 : (blk ++ [f])[i] = blk[i] := List.getElem_append_left e
      simp only [e2, hfs _ (List.getElem_mem e)]
      exact h.file i e
    · have e3 : i = blk.length := by
        rw [List.length_append, List.length_singleton] at hil
        omega
      subst e3
      have e2 : (blk ++ [f])[blk.length] = f := by simp
      simp only [e2]
      rw [h.len]
      simp
  · rcases hown i hi with e | e
    · exact h.own i e
    · exact Nat.le_trans h.room e
  · intro g hg
    rcases List.mem_append.1 hg with hg | hg
    · exact h.blo g hg
    · rw [List.mem_singleton] at hg
      subst hg
      exact Nat.le_trans h.room hf
  · intro g hg b hb
    rcases List.mem_append.1 hg with hg | hg
    · simp only [hfs g hg] at hb
      exact Or.inl (h.zone g hg b hb)
    · rw [List.mem_singleton] at hg
      subst hg
      simp only at hb
      cases hb
  · rcases hb with hb | hb
    · exact ⟨(h.zlo b hb).1, Nat.lt_of_lt_of_le (h.zlo b hb).2 hk.size⟩
    · exact ⟨Nat.le_trans h.room hb.1, hb.2⟩

/-- One file is another one. -/
theorem PS.upd {w' : World} {s' : St} {a' : RA} {m : Nat} (hm : m < blk.length) {v' : Value} {bs' : List UInt8} {dur' : Nat} (hat : FileAt w' blk[m] v' bs' dur') (hle : dur' ≤ bs'.length) (hv : v'.ownBlock = (fs blk[m]).v.ownBlock ∨ ∃ g, v'.ownBlock = some g ∧ w.heap.size ≤ g) (hI : IsDisk w' d s')
    (hk : Kept (fun i => s.own d i ∨ i = blk[m] ∨ (fs blk[m]).v.ownBlock = some i) w w') (hown : ∀ i, s'.own d i → s.own d i) (hfi : a'.files = a.files.set m (bs', (dur' : Int)))
    (cap : s'.cap = a'.cap) (stop : s'.stop = a'.stop) (ops : s'.ops = a'.cnt) (mN : MapIs blk s'.N a'.dir) (mD : MapIs blk s'.D a'.kept) (pend : s'.pend = a'.pend.map (pe blk)) (used : s'.used = a'.used) (flt : FaultIs s'.F a'.cnt a'.faults) (n : s'.n ≤ (k + 1) * 1000) :
    PIs w' d base (k + 1) (newZ Z w w') a' ∧ KP Z base w w' := by
  have hmem : blk[m] ∈ blk := List.getElem_mem hm
  generalize hfm : blk[m] = f at *
  have hff : (if f = f then (⟨v', bs', dur'⟩ : FileV) else fs f) = ⟨v', bs', dur'⟩ := if_pos rfl
  have hno : ∀ g, g ∈ blk → g ≠ f → ¬ (s.own d g ∨ g = f ∨ (fs f).v.ownBlock = some g) := fun g hg hne e => by
    rcases e with e | e | e
    · exact h.file_own g hg e
    · exact hne e
    · exact (h.files.at_ g hg).ne_row (h.files.at_ f hmem).row (by decide) e
  have hnr : ∀ g, g ∈ blk → g ≠ f → ∀ i, (fs g).v.ownBlock = some i → ¬ (s.own d i ∨ i = f ∨ (fs f).v.ownBlock = some i) := fun g hg hne i hi e => by
    rcases e with e | e | e
    · exact h.files.own g hg i hi e
    · exact (h.files.at_ f hmem).ne_row (h.files.at_ g hg).row (by decide) (e ▸ hi)
    · exact h.files.rows g hg f hmem hne i hi e
  have hv2 : ∀ b, v'.ownBlock = some b → (fs f).v.ownBlock = some b ∨ (w.heap.size ≤ b ∧ b < w'.heap.size) := fun b hb => by
    rcases hv with e | ⟨g, e, hg⟩
    · exact Or.inl (e ▸ hb)
    · rw [e] at hb
      cases hb
      exact Or.inr ⟨hg, (hat.row.lt _ e).2⟩
  refine ⟨⟨s', fun g => if g = f then ⟨v', bs', dur'⟩ else fs g, blk, hI, ⟨?_, ?_, ?_, ?_⟩, h.nodup, ?_, ?_, cap, stop, ops, mN, mD, pend, used, flt, n, fun i hi => h.own i (hown i hi), h.blo, ?_, fun b hb => ?_⟩, hk.mono (fun i _ hi => ?_)⟩
  · intro g hg
    by_cases e : g = f
    · subst e
      simp only
      exact hat
    · simp only [if_neg e]
      exact (h.files.at_ g hg).kept hk (hno g hg e) (hnr g hg e)
  · intro g hg
    by_cases e : g = f
    · subst e
      simp only
      exact hle
    · simp only [if_neg e]
      exact h.files.le g hg
  · intro g hg g' hg' hgg i hi
    by_cases e : g = f
    · subst e
      simp only at hi
      simp only [if_neg (fun e => hgg e.symm : ¬ g' = g)]
      rcases hv2 i hi with e | e
      · exact h.files.rows g hg g' hg' hgg i e
      · intro e2
        have := ((h.files.at_ g' hg').row.lt i e2).2
        omega
    · simp only [if_neg e] at hi
      by_cases e' : g' = f
      · subst e'
        simp only
        intro e2
        rcases hv2 i e2 with e3 | e3
        · exact h.files.rows g hg g' hg' hgg i hi e3
        · have := ((h.files.at_ g hg).row.lt i hi).2
          omega
      · simp only [if_neg e']
        exact h.files.rows g hg g' hg' hgg i hi
  · intro g hg i hi ho
    by_cases e : g = f
    · subst e
      simp only at hi
      rcases hv2 i hi with e | e
      · exact h.files.own g hg i e (hown i ho)
      · have := h.disk.lt i (hown i ho)
        omega
    · simp only [if_neg e] at hi
      exact h.files.own g hg i hi (hown i ho)
  · rw [hfi, List.length_set]
    exact h.len
  · intro i hil
    rw [hfi]
    by_cases e : i = m
    · subst e
      rw [List.getElem?_set_self (by rw [← h.len]; exact hil)]
      simp [hfm]
    · rw [List.getElem?_set_ne (fun e' => e e'.symm)]
      have e2 : blk[i] ≠ f := fun e' => e ((List.getElem_inj h.nodup).1 (e'.trans hfm.symm))
      simp only [if_neg e2]
      exact h.file i hil
  · intro g hg b hb
    by_cases e : g = f
    · subst e
      simp only at hb
      rcases hv2 b hb with e | e
      · exact Or.inl (h.zone g hg b e)
      · exact Or.inr e
    · simp only [if_neg e] at hb
      exact Or.inl (h.zone g hg b hb)
  · rcases hb with hb | hb
    · exact ⟨(h.zlo b hb).1, Nat.lt_of_lt_of_le (h.zlo b hb).2 hk.size⟩
    · exact ⟨Nat.le_trans h.room hb.1, hb.2⟩
  · rcases hi with e | e | e
    · exact h.po_own i e
    · exact e ▸ h.po_file f hmem
    · exact h.po_row f hmem i e

variable (hi : Inv k c a) (hk : k ≤ 1000) (hc : c ≤ 1000)
include hi hk hc

theorem P_create (name : ByteArray) (hs : name.size ≤ maxLen) : Calls Try.prog 33 #[.pointer (some ⟨d, 0, none⟩), .string name] w (PStep d base k Z w (a.doCreate name)) := by
  obtain ⟨b1, b2, b3, b4, b5, b6, b7⟩ := h.bounds hi hk hc
  obtain ⟨e1, e2⟩ := h.errs hi hc
  have hq := hi.calm
  unfold RA.doCreate
  by_cases hE : a.err ≠ 0
  · rw [if_pos hE]
    refine (create_refused h.disk b1 name (by rw [e1]; exact hE)).mono ?_
    rintro e w' ⟨rfl, hI, hkk⟩
    exact ⟨by rw [e1], h.begun hq hI hkk⟩
  rw [if_neg hE]
  have hE' : s.err = 0 := by rw [e1]; omega
  by_cases hr : rn name = false
  · rw [if_pos hr]
    refine (create_bad h.disk b1 name hE' hs hr).mono ?_
    rintro e w' ⟨rfl, hI, hkk⟩
    exact ⟨rfl, h.begun hq hI hkk⟩
  rw [if_neg hr]
  have hr' : rn name = true := by simpa using hr
  cases hl : lookD a.dir name.data.toList with
  | some f =>
    rw [if_pos (by rfl)]
    obtain ⟨m, hm, rfl, hat, hfile⟩ := h.found hl hi.tidyD
    refine (create_there h.disk b1 name hE' blk[m] hs hr' hat).mono ?_
    rintro e w' ⟨rfl, hI, hkk⟩
    exact ⟨rfl, h.begun hq hI hkk⟩
  | none =>
    rw [if_neg (by simp)]
    have hz := (rn_size hr').2
    refine (create_new h.disk b1 name hE' b2 b3 hr' (by omega) (h.lost hl)).mono ?_
    rintro e w' ⟨rfl, f, pv', hf, hI, hfa, hpv, hkk⟩
    refine ⟨rfl, h.add hf hfa hI hkk (fun i hi' => ?_) rfl h.cap ?_ ?_ ?_ ?_ ?_ ?_ ?_ ?_⟩
    · rcases hi' with e | e | e | e | e
      · exact Or.inl (Or.inl e)
      · exact Or.inl (Or.inr (Or.inl e))
      · exact Or.inl (Or.inr (Or.inr (Or.inl e)))
      · exact Or.inl (Or.inr (Or.inr (Or.inr (Or.inl e))))
      · have e' : pv'.ownBlock = some i := e
        rcases hpv with e2 | ⟨g, e2, hg⟩
        · rw [e2] at e'
          exact Or.inl (Or.inr (Or.inr (Or.inr (Or.inr e'))))
        · rw [e2] at e'
          cases e'
          exact Or.inr hg
    · show bStop s.stop = rStop a.stop
      rw [h.stop]
      rfl
    · show s.ops + 1 = a.cnt + 1
      rw [h.ops]
    · have := (h.mN.grow (h.len ▸ hi.tidyD) f).put name (a.files.length : Int)
      have e3 : nameV (blk ++ [f]) (some (a.files.length : Int)) = .lit (.int .i64 (f : Nat)) := by simp [nameV, List.getD, ← h.len]
      rw [e3] at this
      exact this
    · exact h.mD.grow (h.len ▸ hi.tidyK) f
    · show s.pend ++ [(ByteArray.empty, name, some ⟨f, 0, none⟩)] = (a.pend ++ [(1, ByteArray.empty, name, (a.files.length : Int))]).map (pe (blk ++ [f]))
      rw [List.map_append, h.pend]
      congr 1
      · exact List.map_congr_left (fun p hp => (pe_grow (h.len ▸ hi.okp p hp) f).symm)
      · simp [pe, List.getD, ← h.len]
    · show s.used = ((sumD (a.begun.create name).lenAt (setL a.dir name (a.files.length : Int)) : Nat) : Int)
      rw [sumD_set, unset_none hl, h.used, RA.used_sum]
      have e3 : (a.begun.create name).lenAt (a.files.length : Int) = 0 := by simp [RA.lenAt, RA.create, RA.begun]
      have e4 : sumD (a.begun.create name).lenAt a.dir = sumD a.lenAt a.dir := sumD_congr (fun e he => by
        obtain ⟨m, h1, h2⟩ := hi.tidyD.lt e he
        rw [h1]
        simp [RA.lenAt, RA.create, RA.begun, List.getElem?_append_left h2])
      rw [e3, e4]
      rfl
    · show FaultIs (s.F.del (.int .i64 s.ops)) (a.cnt + 1) (qLeft a.faults)
      rw [h.ops]
      exact h.flt.begun hq
    · show s.n + 1 ≤ (k + 1) * 1000
      have := h.n
      rw [Nat.add_mul]
      omega

theorem P_sync (name : ByteArray) (hs : name.size ≤ maxLen) : Calls Try.prog 35 #[.pointer (some ⟨d, 0, none⟩), .string name] w (PStep d base k Z w (a.doSync name)) := by
  obtain ⟨b1, b2, b3, b4, b5, b6, b7⟩ := h.bounds hi hk hc
  obtain ⟨e1, e2⟩ := h.errs hi hc
  have hq := hi.calm
  unfold RA.doSync
  by_cases hE : a.err ≠ 0
  · rw [if_pos hE]
    refine (sync_refused h.disk b1 name (by rw [e1]; exact hE)).mono ?_
    rintro e w' ⟨rfl, hI, hkk⟩
    exact ⟨by rw [e1], h.begun hq hI hkk⟩
  rw [if_neg hE]
  have hE' : s.err = 0 := by rw [e1]; omega
  by_cases hr : rn name = false
  · rw [if_pos hr]
    refine (sync_bad h.disk b1 hE' name hs hr).mono ?_
    rintro e w' ⟨rfl, hI, hkk⟩
    exact ⟨rfl, h.begun hq hI hkk⟩
  rw [if_neg hr]
  have hr' : rn name = true := by simpa using hr
  cases hl : lookD a.dir name.data.toList with
  | none =>
    refine (sync_none h.disk b1 hE' name hs hr' (h.lost hl)).mono ?_
    rintro e w' ⟨rfl, hI, hkk⟩
    exact ⟨rfl, h.begun hq hI hkk⟩
  | some f =>
    obtain ⟨m, hm, rfl, hat, hfile⟩ := h.found hl hi.tidyD
    have hmem : blk[m] ∈ blk := List.getElem_mem hm
    refine (sync_ok h.disk b1 hE' name hr' hs blk[m] hat _ _ _ (h.files.at_ _ hmem) (h.files.own _ hmem)).mono ?_
    rintro e w' ⟨rfl, hfa, hI, hkk⟩
    have eb : a.bytesAt (m : Int) = (fs blk[m]).bs := by simp [RA.bytesAt, hfile]
    show PStep d base k Z w (0, a.begun.sync (m : Int).toNat (a.bytesAt (m : Int))) _ w'
    rw [eb, Int.toNat_natCast]
    refine ⟨rfl, h.upd hm hfa (Nat.le_refl _) (Or.inl rfl) hI (hkk.mono (fun i _ e => e.elim Or.inl (fun e => Or.inr (Or.inl e)))) (fun i hi' => hi') rfl h.cap ?_ ?_ h.mN h.mD h.pend ?_ ?_ ?_⟩
    · show bStop s.stop = rStop a.stop
      rw [h.stop]
      rfl
    · show s.ops + 1 = a.cnt + 1
      rw [h.ops]
    · show s.used = ((sumD (a.begun.sync m (fs blk[m]).bs).lenAt a.dir : Nat) : Int)
      rw [h.used, RA.used_sum]
      congr 1
      refine sumD_congr (fun e he => ?_)
      obtain ⟨m2, h1, h2⟩ := hi.tidyD.lt e he
      rw [h1]
      simp only [RA.lenAt, RA.sync, RA.begun, Int.toNat_natCast]
      by_cases e3 : m2 = m
      · subst e3
        rw [List.getElem?_set_self h2, hfile]
        rfl
      · rw [List.getElem?_set_ne (fun e' => e3 e'.symm)]
    · show FaultIs (s.F.del (.int .i64 s.ops)) (a.cnt + 1) (qLeft a.faults)
      rw [h.ops]
      exact h.flt.begun hq
    · exact Nat.le_trans h.n (Nat.mul_le_mul_right _ (Nat.le_succ k))

theorem P_append (name : ByteArray) (hs : name.size ≤ maxLen) (ad : Addr) (cc : Nat) (bs : List UInt8) (hbl : bs.length ≤ 200) (hbc : bs.length ≤ cc) (hcm : cc ≤ maxLen) (hnews : ∀ j u, (byteVals bs)[j]? = some u → w.cell? (ad.add j) = some u) (hadr : 0 < bs.length → ¬ s.own d ad.block) :
    Calls Try.prog 34 #[.pointer (some ⟨d, 0, none⟩), .string name, .slice (some ad) bs.length cc] w (PStep d base k Z w (a.doAppend name bs)) := by
  obtain ⟨b1, b2, b3, b4, b5, b6, b7⟩ := h.bounds hi hk hc
  obtain ⟨e1, e2⟩ := h.errs hi hc
  have hq := hi.calm
  have hrg := hit_range a
  unfold RA.doAppend
  by_cases h7 : a.err = 7
  · rw [if_pos h7]
    have hh : s.torn = false := by
      cases e : s.torn
      · rfl
      · have := torn_err e; omega
    refine (append_refused h.disk b1 name (some ad) bs.length cc (by omega) hh).mono ?_
    rintro e w' ⟨rfl, hI, hkk⟩
    exact ⟨by rw [e1, h7], h.begun hq hI hkk⟩
  rw [if_neg h7]
  have failed : ∀ (R : Int), R ≠ 0 → Hid (∀ W, IsDisk W d s.begun → Calls Try.prog 61 #[.pointer (some ⟨d, 0, none⟩), .string name, .int .i64 bs.length] W fun e w' => e = .returned (.tuple #[.pointer none, .int .i64 R]) ∧ ∃ k, w' = W.drewN k) →
      Calls Try.prog 34 #[.pointer (some ⟨d, 0, none⟩), .string name, .slice (some ad) bs.length cc] w (PStep d base k Z w (if a.err = 0 then R else 6, a.begun)) := by
    intro R hR HFR
    by_cases h0 : a.err = 0
    · rw [if_pos h0]
      refine (append_fails h.disk b1 name (some ad) bs.length cc R hR HFR (by omega)).mono ?_
      rintro e w' ⟨rfl, hI, hkk⟩
      exact ⟨rfl, h.begun hq hI hkk⟩
    · rw [if_neg h0]
      cases ht : s.torn
      · refine (append_refused h.disk b1 name (some ad) bs.length cc (by omega) ht).mono ?_
        rintro e w' ⟨rfl, hI, hkk⟩
        have e6 : s.err = 6 := by omega
        exact ⟨by rw [e6], h.begun hq hI hkk⟩
      · refine (append_torn_fails h.disk b1 name (some ad) bs.length cc R hR HFR ht).mono ?_
        rintro e w' ⟨rfl, hI, hkk⟩
        exact ⟨rfl, h.begun hq hI hkk⟩
  by_cases hr : rn name = false
  · rw [if_pos hr]
    exact failed 2 (by omega) (fun W hI => findRoom_bad d name W bs.length hs hr)
  rw [if_neg hr]
  have hr' : rn name = true := by simpa using hr
  cases hl : lookD a.dir name.data.toList with
  | none =>
    exact failed 3 (by omega) (fun W hI => findRoom_none d _ _ _ _ _ _ _ _ _ _ name W bs.length hs hr' hI.at_ hI.mN (h.lost hl))
  | some f =>
    obtain ⟨m, hm, rfl, hat, hfile⟩ := h.found hl hi.tidyD
    have hmem : blk[m] ∈ blk := List.getElem_mem hm
    have hcap : s.cap = a.cap := h.cap
    have huse : s.used = a.used := h.used
    show Calls _ _ _ w (PStep d base k Z w (if ¬ a.fits bs.length then _ else _))
    by_cases hfit : a.fits bs.length
    · rw [if_neg (fun hn => hn hfit)]
      have HFR : Hid (∀ W, IsDisk W d s.begun → Calls Try.prog 61 #[.pointer (some ⟨d, 0, none⟩), .string name, .int .i64 bs.length] W fun e w' => e = .returned (.tuple #[.pointer (some ⟨blk[m], 0, none⟩), .int .i64 0]) ∧ ∃ k, w' = W.drewN k) := fun W hI => by
        by_cases h0 : bs.length = 0
        · rw [h0]
          exact findRoom_zero d blk[m] _ _ _ _ _ _ _ _ _ _ name W hs hr' hI.at_ hI.mN hat
        · refine findRoom_wide d blk[m] _ _ _ _ _ _ _ _ _ _ name W hs hr' hI.at_ hI.mN hat bs.length (by omega) b6 b7 b5.1 b5.2 ?_
          rcases hfit with e | e
          · exact absurd e h0
          · show (bs.length : Int) ≤ s.cap - s.used
            omega
      have hlen := (hi.len _ (List.mem_of_getElem? hfile)).1
      have hlen' : (fs blk[m]).bs.length ≤ 200 * k := hlen
      have hle := h.files.le _ hmem
      have eb : a.begun.bytesAt (m : Int) = (fs blk[m]).bs := by simp [RA.bytesAt, RA.begun, hfile]
      have ek : a.begun.keptAt (m : Int) = ((fs blk[m]).dur : Int) := by simp [RA.keptAt, RA.begun, hfile]
      have fin : ∀ (nw : List UInt8) (er : Int) (w' : World) (v' : Value), FileAt w' blk[m] v' ((fs blk[m]).bs ++ nw) (fs blk[m]).dur → IsDisk w' d { s.begun with used := s.used + (nw.length : Nat) } → (v'.ownBlock = (fs blk[m]).v.ownBlock ∨ ∃ g, v'.ownBlock = some g ∧ w.heap.size ≤ g) → Kept (fun i => s.own d i ∨ i = blk[m] ∨ (fs blk[m]).v.ownBlock = some i) w w' → PStep d base k Z w (er, a.begun.addAt (m : Int) nw) (.returned (.int .i64 er)) w' := by
        intro nw er w' v' hfa hI hv hkk
        refine ⟨rfl, h.upd hm hfa (by rw [List.length_append]; omega) hv hI hkk (fun i hi' => hi') ?_ h.cap ?_ ?_ h.mN h.mD h.pend ?_ ?_ ?_⟩
        · show a.files.set (m : Int).toNat (a.begun.bytesAt (m : Int) ++ nw, a.begun.keptAt (m : Int)) = _
          rw [eb, ek, Int.toNat_natCast]
        · show bStop s.stop = rStop a.stop
          rw [h.stop]
          rfl
        · show s.ops + 1 = a.cnt + 1
          rw [h.ops]
        · show s.used + ((nw.length : Nat) : Int) = ((sumD (a.begun.addAt (m : Int) nw).lenAt a.dir : Nat) : Int)
          have e3 : sumD (a.begun.addAt (m : Int) nw).lenAt a.dir = sumD a.lenAt a.dir + nw.length := by
            obtain ⟨e', he1, _, he3⟩ := lookD_mem hl
            refine sumD_bump hi.tidyD.files (f := (m : Int)) ⟨e', he1, he3⟩ ?_ (fun x hxm hx => ?_)
            · simp only [RA.lenAt, RA.addAt, RA.add, eb, ek, Int.toNat_natCast]
              show (Option.map _ ((a.files.set m _)[m]?)).getD 0 = _
              rw [List.getElem?_set_self (by rw [← h.len]; exact hm), hfile]
              simp
            · obtain ⟨m2, hx1, _⟩ := hi.tidyD.lt x hxm
              rw [hx1] at hx ⊢
              simp only [RA.lenAt, RA.addAt, RA.add, eb, ek, Int.toNat_natCast]
              show (Option.map _ ((a.files.set m _)[m2]?)).getD 0 = _
              rw [List.getElem?_set_ne (fun e' => hx (by rw [e']))]
          rw [e3, h.used, RA.used_sum]
          omega
        · show FaultIs (s.F.del (.int .i64 s.ops)) (a.cnt + 1) (qLeft a.faults)
          rw [h.ops]
          exact h.flt.begun hq
        · exact Nat.le_trans h.n (Nat.mul_le_mul_right _ (Nat.le_succ k))
      by_cases h0 : a.err = 0
      · rw [if_pos h0]
        refine (append_puts h.disk b1 name blk[m] _ _ _ (h.files.at_ _ hmem) (h.files.own _ hmem) ad bs.length cc bs hnews hadr (by omega) b5.1 b5.2 HFR (by omega) rfl).mono ?_
        rintro e w' ⟨rfl, v', hfa, hI, hv, hkk⟩
        exact fin bs 0 w' v' hfa hI hv hkk
      · rw [if_neg h0]
        by_cases h2 : a.hit = 2
        · rw [if_pos h2]
          have ht : s.torn = true := by rw [e2]; exact decide_eq_true h2
          have hl2 : (bs.take (bs.length / 2)).length = bs.length / 2 := by rw [List.length_take]; omega
          refine (append_tears h.disk b1 name blk[m] _ _ _ (h.files.at_ _ hmem) (h.files.own _ hmem) ad bs.length cc hbc hcm (bs.take (bs.length / 2)) (fun j u hj => ?_) (fun hp => hadr (by omega)) (by omega) b5.1 b5.2 HFR ht hl2).mono ?_
          · refine hnews j u ?_
            rw [byteVals_take] at hj
            rw [List.getElem?_take] at hj
            split at hj
            · exact hj
            · cases hj
          · rintro e w' ⟨rfl, v', hfa, hI, hv, hkk⟩
            have := fin (bs.take (bs.length / 2)) 6 w' v' hfa (by rw [hl2]; exact hI) hv hkk
            exact this
        · rw [if_neg h2]
          have ht : s.torn = false := by rw [e2]; exact decide_eq_false h2
          refine (append_refused h.disk b1 name (some ad) bs.length cc (by omega) ht).mono ?_
          rintro e w' ⟨rfl, hI, hkk⟩
          have e6 : s.err = 6 := by omega
          exact ⟨by rw [e6], h.begun hq hI hkk⟩
    · rw [if_pos hfit]
      have hfit' : ¬ bs.length = 0 ∧ ¬ (bs.length : Int) ≤ a.cap - (a.used : Int) := by
        unfold RA.fits at hfit
        exact ⟨fun e => hfit (Or.inl e), fun e => hfit (Or.inr e)⟩
      exact failed 5 (by omega) (fun W hI => findRoom_full d blk[m] _ _ _ _ _ _ _ _ _ _ name W hs hr' hI.at_ hI.mN hat bs.length (by omega) b6 b7 b5.1 b5.2 (by show ¬ (bs.length : Int) ≤ s.cap - s.used; omega))
end

end Go.Proofs.Ytipakfdebccchaa
