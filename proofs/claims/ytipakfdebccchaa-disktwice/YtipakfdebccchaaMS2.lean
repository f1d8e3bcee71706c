/- The document's disk without its values; what refuses its operations. -/
import Derived.Test.YtipakfdebccchaaMR8
import Derived.Test.YtipakfdebccchaaMS1
namespace Go.Proofs.Ytipakfdebccchaa
open Go.RowKit Go.Maps Go.Sort

/-- What the document's disk says. -/
structure RA where
  cap : Int
  stop : Int
  cnt : Int
  files : List (List UInt8 × Int)
  dir : List (ByteArray × Int)
  kept : List (ByteArray × Int)
  pend : List (Int × ByteArray × ByteArray × Int)
  faults : List (Int × Int)
  zone : Nat → Prop
def RSt.abs (s : RSt) : RA := ⟨s.cap, s.stop, s.cnt, s.files.map Prod.snd, s.dir, s.kept, s.pend, s.faults, s.zone⟩
def RefIs (w : World) (r base : Nat) (a : RA) : Prop := ∃ s, IsRef w r s ∧ s.base = base ∧ s.abs = a
def RA.begun (a : RA) : RA := { a with cnt := a.cnt + 1, stop := rStop a.stop, faults := qLeft a.faults }
def RA.err (a : RA) : Int := rErr a.stop (qStruck a.faults)
def RA.hit (a : RA) : Int := rHit a.stop (qStruck a.faults)

/-- Begin is right as this says. -/
def Begins (w : World) (r base : Nat) (a : RA) (er st : Int) : Prop := Calls Try.prog 68 #[.pointer (some ⟨r, 0, none⟩)] w fun e w' => e = .returned (.tuple #[.int .i64 er, .int .i64 st]) ∧ RefIs w' r base a ∧ KT (refS base) w w'

theorem begins_any {w : World} {r base : Nat} {a : RA} (h : RefIs w r base a) (hq : ∀ x, x ∈ a.faults → 0 ≤ x.1 ∧ x.1 ≤ 9223372036854775807) (hl : a.faults.length ≤ 1000000000) (h0 : 0 ≤ a.cnt) (h1 : a.cnt < 1000000000) (hs0 : -1 ≤ a.stop) (hs1 : a.stop ≤ 9223372036854775807) : Begins w r base a.begun a.err a.hit := by
  obtain ⟨s, hI, rfl, rfl⟩ := h
  refine (refBegin_loop hI hq hl h0 h1 hs0 hs1).mono ?_
  rintro e w' ⟨rfl, qv, hI', hk⟩
  exact ⟨rfl, ⟨_, hI', rfl, rfl⟩, hk⟩

section
variable {w : World} {r base : Nat} {a : RA} {er st : Int} (hb : Begins w r base a er st)
include hb

section
variable (hE : er ≠ 0)
include hE

set_option maxHeartbeats 1000000 in
theorem refCreate_refused (name : ByteArray) :
    Calls Try.prog 49 #[.pointer (some ⟨r, 0, none⟩), .string name] w fun e w' => e = .returned (.int .i64 er) ∧ RefIs w' r base a ∧ KT (refS base) w w' := by
  unfold Begins at hb
  have hE' : (er == 0) = false := by simpa using hE
  clear hE
  go_enter Try.func49, Try.ntmps49
  go_wp2_with (go_at_call 68; refine hb.mono ?_; rintro e w1 ⟨rfl, hI, hk⟩)
  all_goals first | (go_ret; exact ⟨rfl, hI, hk⟩) | (exfalso; simp at *; omega)

set_option maxHeartbeats 1000000 in
theorem refRemove_refused (name : ByteArray) :
    Calls Try.prog 57 #[.pointer (some ⟨r, 0, none⟩), .string name] w fun e w' => e = .returned (.int .i64 er) ∧ RefIs w' r base a ∧ KT (refS base) w w' := by
  unfold Begins at hb
  have hE' : (er == 0) = false := by simpa using hE
  clear hE
  go_enter Try.func57, Try.ntmps57
  go_wp2_with (go_at_call 68; refine hb.mono ?_; rintro e w1 ⟨rfl, hI, hk⟩)
  all_goals first | (go_ret; exact ⟨rfl, hI, hk⟩) | (exfalso; simp at *; omega)

set_option maxHeartbeats 1000000 in
theorem refSyncDir_refused :
    Calls Try.prog 58 #[.pointer (some ⟨r, 0, none⟩)] w fun e w' => e = .returned (.int .i64 er) ∧ RefIs w' r base a ∧ KT (refS base) w w' := by
  unfold Begins at hb
  have hE' : (er == 0) = false := by simpa using hE
  clear hE
  go_enter Try.func58, Try.ntmps58
  go_wp2_with (go_at_call 68; refine hb.mono ?_; rintro e w1 ⟨rfl, hI, hk⟩)
  all_goals first | (go_ret; exact ⟨rfl, hI, hk⟩) | (exfalso; simp at *; omega)

set_option maxHeartbeats 1000000 in
theorem refSync_refused (name : ByteArray) (hl : a.dir.length ≤ 1000000000) :
    Calls Try.prog 53 #[.pointer (some ⟨r, 0, none⟩), .string name] w fun e w' => e = .returned (.int .i64 er) ∧ RefIs w' r base a ∧ KT (refS base) w w' := by
  unfold Begins at hb
  have hE' : (er == 0) = false := by simpa using hE
  have HF : Hid (∀ w1 s, IsRef w1 r s → s.base = base → s.abs = a → RefIs w1 r base a) := fun w1 s h1 h2 h3 => ⟨s, h1, h2, h3⟩
  clear hE
  go_enter Try.func53, Try.ntmps53
  go_wp2_with (first
    | (go_at_call 68; refine hb.mono ?_; rintro e w1 ⟨rfl, ⟨s, hI, hsb, hsa⟩, hk⟩; have hR := HF.out _ _ hI hsb hsa; have hl' : s.dir.length ≤ 1000000000 := by rw [← hsa] at hl; exact hl
       clear hsb hsa; obtain ⟨c0, c1, c2, c3, c4, c5, c6, c7, cf⟩ := hI.at_.cells)
    | (go_at_call 47; refine (refAt_any _ s.dir name _ _ hI.rD hl').mono ?_; rintro e w2 ⟨⟨i, rfl, hi⟩, rfl⟩; clear hi))
  all_goals first | (go_ret; exact ⟨rfl, hR, hk⟩) | (exfalso; simp at *; omega)

set_option maxHeartbeats 1000000 in
theorem refRename_refused (name dest : ByteArray) (hl : a.dir.length ≤ 1000000000) :
    Calls Try.prog 55 #[.pointer (some ⟨r, 0, none⟩), .string name, .string dest] w fun e w' => e = .returned (.int .i64 er) ∧ RefIs w' r base a ∧ KT (refS base) w w' := by
  unfold Begins at hb
  have hE' : (er == 0) = false := by simpa using hE
  have HF : Hid (∀ w1 s, IsRef w1 r s → s.base = base → s.abs = a → RefIs w1 r base a) := fun w1 s h1 h2 h3 => ⟨s, h1, h2, h3⟩
  clear hE
  go_enter Try.func55, Try.ntmps55
  go_wp2_with (first
    | (go_at_call 68; refine hb.mono ?_; rintro e w1 ⟨rfl, ⟨s, hI, hsb, hsa⟩, hk⟩; have hR := HF.out _ _ hI hsb hsa; have hl' : s.dir.length ≤ 1000000000 := by rw [← hsa] at hl; exact hl
       clear hsb hsa; obtain ⟨c0, c1, c2, c3, c4, c5, c6, c7, cf⟩ := hI.at_.cells)
    | (go_at_call 47; refine (refAt_any _ s.dir name _ _ hI.rD hl').mono ?_; rintro e w2 ⟨⟨i, rfl, hi⟩, rfl⟩; clear hi))
  all_goals first | (go_ret; exact ⟨rfl, hR, hk⟩) | (exfalso; simp at *; omega)
end
end

section
variable {w : World} {r base : Nat} {a : RA} {st : Int} (hb : Begins w r base a 0 st)
include hb

set_option maxHeartbeats 1000000 in
theorem refCreate_bad (name : ByteArray) (hs : name.size ≤ maxLen) (hr : rn name = false) :
    Calls Try.prog 49 #[.pointer (some ⟨r, 0, none⟩), .string name] w fun e w' => e = .returned (.int .i64 2) ∧ RefIs w' r base a ∧ KT (refS base) w w' := by
  unfold Begins at hb
  go_enter Try.func49, Try.ntmps49
  go_wp2_with (first
    | (go_at_call 68; refine hb.mono ?_; rintro e w1 ⟨rfl, hI, hk⟩)
    | (go_at_call 48; refine (refRight_any name _ hs).mono ?_; rintro e w2 ⟨rfl, rfl⟩; rw [hr]))
  go_ret
  exact ⟨rfl, hI, hk⟩

set_option maxHeartbeats 1000000 in
theorem refRemove_bad (name : ByteArray) (hs : name.size ≤ maxLen) (hr : rn name = false) :
    Calls Try.prog 57 #[.pointer (some ⟨r, 0, none⟩), .string name] w fun e w' => e = .returned (.int .i64 2) ∧ RefIs w' r base a ∧ KT (refS base) w w' := by
  unfold Begins at hb
  go_enter Try.func57, Try.ntmps57
  go_wp2_with (first
    | (go_at_call 68; refine hb.mono ?_; rintro e w1 ⟨rfl, hI, hk⟩)
    | (go_at_call 48; refine (refRight_any name _ hs).mono ?_; rintro e w2 ⟨rfl, rfl⟩; rw [hr]))
  go_ret
  exact ⟨rfl, hI, hk⟩

variable (hl : a.dir.length ≤ 1000000000)
include hl

set_option maxHeartbeats 1000000 in
theorem refCreate_there (name : ByteArray) (hs : name.size ≤ maxLen) (hr : rn name = true) (hat : ∀ i, Stands a.dir name i → 0 ≤ i) :
    Calls Try.prog 49 #[.pointer (some ⟨r, 0, none⟩), .string name] w fun e w' => e = .returned (.int .i64 4) ∧ RefIs w' r base a ∧ KT (refS base) w w' := by
  unfold Begins at hb
  have HF : Hid (∀ w1 s, IsRef w1 r s → s.base = base → s.abs = a → RefIs w1 r base a ∧ s.dir.length ≤ 1000000000 ∧ Hid (∀ i, Stands s.dir name i → 0 ≤ i)) := fun w1 s h1 h2 h3 => ⟨⟨s, h1, h2, h3⟩, by rw [← h3] at hl; exact hl, by rw [← h3] at hat; exact hat⟩
  clear hat hl
  go_enter Try.func49, Try.ntmps49
  go_wp2_with (first
    | (go_at_call 68; refine hb.mono ?_; rintro e w1 ⟨rfl, ⟨s, hI, hsb, hsa⟩, hk⟩; obtain ⟨hR, hl', HA⟩ := HF.out _ _ hI hsb hsa; clear hsb hsa; obtain ⟨c0, c1, c2, c3, c4, c5, c6, c7, cf⟩ := hI.at_.cells)
    | (go_at_call 48; refine (refRight_any name _ hs).mono ?_; rintro e w2 ⟨rfl, rfl⟩; rw [hr])
    | (go_at_call 47; refine (refAt_any _ s.dir name _ _ hI.rD hl').mono ?_; rintro e w2 ⟨⟨i, rfl, hi⟩, rfl⟩; have hi0 := HA.out _ hi; clear hi))
  all_goals first | (go_ret; exact ⟨rfl, hR, hk⟩) | (exfalso; simp at *; omega)

set_option maxHeartbeats 1000000 in
theorem refRemove_none (name : ByteArray) (hs : name.size ≤ maxLen) (hr : rn name = true) (hat : ∀ i, Stands a.dir name i → i < 0) :
    Calls Try.prog 57 #[.pointer (some ⟨r, 0, none⟩), .string name] w fun e w' => e = .returned (.int .i64 3) ∧ RefIs w' r base a ∧ KT (refS base) w w' := by
  unfold Begins at hb
  have HF : Hid (∀ w1 s, IsRef w1 r s → s.base = base → s.abs = a → RefIs w1 r base a ∧ s.dir.length ≤ 1000000000 ∧ Hid (∀ i, Stands s.dir name i → i < 0)) := fun w1 s h1 h2 h3 => ⟨⟨s, h1, h2, h3⟩, by rw [← h3] at hl; exact hl, by rw [← h3] at hat; exact hat⟩
  clear hat hl
  go_enter Try.func57, Try.ntmps57
  go_wp2_with (first
    | (go_at_call 68; refine hb.mono ?_; rintro e w1 ⟨rfl, ⟨s, hI, hsb, hsa⟩, hk⟩; obtain ⟨hR, hl', HA⟩ := HF.out _ _ hI hsb hsa; clear hsb hsa; obtain ⟨c0, c1, c2, c3, c4, c5, c6, c7, cf⟩ := hI.at_.cells)
    | (go_at_call 48; refine (refRight_any name _ hs).mono ?_; rintro e w2 ⟨rfl, rfl⟩; rw [hr])
    | (go_at_call 47; refine (refAt_any _ s.dir name _ _ hI.rD hl').mono ?_; rintro e w2 ⟨⟨i, rfl, hi⟩, rfl⟩; have hi0 := stands_neg hi (HA.out _ hi); clear hi; subst hi0))
  go_ret
  exact ⟨rfl, hR, hk⟩

set_option maxHeartbeats 1000000 in
theorem refSync_bad (name : ByteArray) (hs : name.size ≤ maxLen) (hr : rn name = false) :
    Calls Try.prog 53 #[.pointer (some ⟨r, 0, none⟩), .string name] w fun e w' => e = .returned (.int .i64 2) ∧ RefIs w' r base a ∧ KT (refS base) w w' := by
  unfold Begins at hb
  have HF : Hid (∀ w1 s, IsRef w1 r s → s.base = base → s.abs = a → RefIs w1 r base a ∧ s.dir.length ≤ 1000000000) := fun w1 s h1 h2 h3 => ⟨⟨s, h1, h2, h3⟩, by rw [← h3] at hl; exact hl⟩
  clear hl
  go_enter Try.func53, Try.ntmps53
  go_wp2_with (first
    | (go_at_call 68; refine hb.mono ?_; rintro e w1 ⟨rfl, ⟨s, hI, hsb, hsa⟩, hk⟩; obtain ⟨hR, hl'⟩ := HF.out _ _ hI hsb hsa; clear hsb hsa; obtain ⟨c0, c1, c2, c3, c4, c5, c6, c7, cf⟩ := hI.at_.cells)
    | (go_at_call 48; refine (refRight_any name _ hs).mono ?_; rintro e w2 ⟨rfl, rfl⟩; rw [hr])
    | (go_at_call 47; refine (refAt_any _ s.dir name _ _ hI.rD hl').mono ?_; rintro e w2 ⟨⟨i, rfl, hi⟩, rfl⟩; clear hi))
  go_ret
  exact ⟨rfl, hR, hk⟩

set_option maxHeartbeats 1000000 in
theorem refSync_none (name : ByteArray) (hs : name.size ≤ maxLen) (hr : rn name = true) (hat : ∀ i, Stands a.dir name i → i < 0) :
    Calls Try.prog 53 #[.pointer (some ⟨r, 0, none⟩), .string name] w fun e w' => e = .returned (.int .i64 3) ∧ RefIs w' r base a ∧ KT (refS base) w w' := by
  unfold Begins at hb
  have HF : Hid (∀ w1 s, IsRef w1 r s → s.base = base → s.abs = a → RefIs w1 r base a ∧ s.dir.length ≤ 1000000000 ∧ Hid (∀ i, Stands s.dir name i → i < 0)) := fun w1 s h1 h2 h3 => ⟨⟨s, h1, h2, h3⟩, by rw [← h3] at hl; exact hl, by rw [← h3] at hat; exact hat⟩
  clear hat hl
  go_enter Try.func53, Try.ntmps53
  go_wp2_with (first
    | (go_at_call 68; refine hb.mono ?_; rintro e w1 ⟨rfl, ⟨s, hI, hsb, hsa⟩, hk⟩; obtain ⟨hR, hl', HA⟩ := HF.out _ _ hI hsb hsa; clear hsb hsa; obtain ⟨c0, c1, c2, c3, c4, c5, c6, c7, cf⟩ := hI.at_.cells)
    | (go_at_call 48; refine (refRight_any name _ hs).mono ?_; rintro e w2 ⟨rfl, rfl⟩; rw [hr])
    | (go_at_call 47; refine (refAt_any _ s.dir name _ _ hI.rD hl').mono ?_; rintro e w2 ⟨⟨i, rfl, hi⟩, rfl⟩; have hi0 := stands_neg hi (HA.out _ hi); clear hi; subst hi0))
  go_ret
  exact ⟨rfl, hR, hk⟩
end

end Go.Proofs.Ytipakfdebccchaa
