/- The document's Append, where nothing is appended for its name. -/
import Derived.Test.YtipakfdebccchaaMS3
namespace Go.Proofs.Ytipakfdebccchaa
open Go.RowKit Go.Maps Go.Sort

/-- Bytes that came in: they lie below what the disks have. -/
def AB (w : World) (base : Nat) (v : Value) (bs : List UInt8) : Prop := BytesAt w v bs ∧ ∀ b, v.ownBlock = some b → bs ≠ [] → b < base
theorem KT.ab {w w' : World} {base : Nat} (h : KT (refS base) w w') {v : Value} {bs : List UInt8} (hb : AB w base v bs) : AB w' base v bs :=
  ⟨hb.1.kept h (fun b hb1 hne ⟨cs, t, fr, _, e⟩ => by
    have := hb.2 b hb1 hne
    unfold refS at e
    simp at e
    omega), hb.2⟩

section
variable {w : World} {r base : Nat} {a : RA}

set_option maxHeartbeats 1000000 in
theorem refAppend_died {st : Int} (hb : Begins w r base a 7 st) (name : ByteArray) (bv : Value) :
    Calls Try.prog 51 #[.pointer (some ⟨r, 0, none⟩), .string name, bv] w fun e w' => e = .returned (.int .i64 7) ∧ RefIs w' r base a ∧ KT (refS base) w w' := by
  unfold Begins at hb
  go_enter Try.func51, Try.ntmps51
  go_wp2_with (go_at_call 68; refine hb.mono ?_; rintro e w1 ⟨rfl, hI, hk⟩)
  go_ret
  exact ⟨rfl, hI, hk⟩

set_option maxRecDepth 100000 in
set_option maxHeartbeats 4000000 in
theorem refAppend_bad00 (hb : Begins w r base a 0 0) (hl : a.dir.length ≤ 1000000000) (name : ByteArray) (hs : name.size ≤ maxLen) (hr : rn name = false) (bv : Value) (bs : List UInt8) (hbv : AB w base bv bs) :
    Calls Try.prog 51 #[.pointer (some ⟨r, 0, none⟩), .string name, bv] w fun e w' => e = .returned (.int .i64 2) ∧ RefIs w' r base a ∧ KT (refS base) w w' := by
  unfold Begins at hb
  have hright : ∀ w, Calls Try.prog 48 #[.string name] w fun e w' => e = .returned (.bool false) ∧ w' = w := fun w => by have := refRight_any name w hs; rw [hr] at this; exact this
  have HF : Hid (∀ w1 s, IsRef w1 r s → s.base = base → s.abs = a → RefIs w1 r base a ∧ s.dir.length ≤ 1000000000) := fun w1 s h1 h2 h3 => ⟨⟨s, h1, h2, h3⟩, by rw [← h3] at hl; exact hl⟩
  clear hl
  obtain ⟨ba, bc, hbs, _⟩ := hbv.1.shape
  subst hbs
  clear hbv
  go_enter Try.func51, Try.ntmps51
  go_wp2_with (first
    | (go_at_call 68; refine hb.mono ?_; rintro e w1 ⟨rfl, ⟨s, hI, hsb, hsa⟩, hk⟩; obtain ⟨hR, hl'⟩ := HF.out _ _ hI hsb hsa; clear hsb hsa; obtain ⟨c0, c1, c2, c3, c4, c5, c6, c7, cf⟩ := hI.at_.cells)
    | (go_at_call 47; refine (refAt_any _ s.dir name _ _ hI.rD hl').mono ?_; rintro e w2 ⟨⟨i, rfl, hi⟩, rfl⟩; clear hi))
  go_quiet (first | (go_at_call 48; exact Calls.quiet_of_same (hright _)))
  go_wp2_with (first | (go_at_call 48; refine (hright _).mono ?_; rintro e w2 ⟨rfl, rfl⟩))
  go_ret
  exact ⟨rfl, hR.drewN _, hk.drewN _⟩

set_option maxRecDepth 100000 in
set_option maxHeartbeats 4000000 in
theorem refAppend_none00 (hb : Begins w r base a 0 0) (hl : a.dir.length ≤ 1000000000) (name : ByteArray) (hs : name.size ≤ maxLen) (hr : rn name = true) (hat : ∀ i, Stands a.dir name i → i < 0) (bv : Value) (bs : List UInt8) (hbv : AB w base bv bs) :
    Calls Try.prog 51 #[.pointer (some ⟨r, 0, none⟩), .string name, bv] w fun e w' => e = .returned (.int .i64 3) ∧ RefIs w' r base a ∧ KT (refS base) w w' := by
  unfold Begins at hb
  have hright : ∀ w, Calls Try.prog 48 #[.string name] w fun e w' => e = .returned (.bool true) ∧ w' = w := fun w => by have := refRight_any name w hs; rw [hr] at this; exact this
  have HF : Hid (∀ w1 s, IsRef w1 r s → s.base = base → s.abs = a → RefIs w1 r base a ∧ s.dir.length ≤ 1000000000 ∧ Hid (∀ i, Stands s.dir name i → i < 0)) := fun w1 s h1 h2 h3 => ⟨⟨s, h1, h2, h3⟩, by rw [← h3] at hl; exact hl, by rw [← h3] at hat; exact hat⟩
  clear hl hat
  obtain ⟨ba, bc, hbs, _⟩ := hbv.1.shape
  subst hbs
  clear hbv
  go_enter Try.func51, Try.ntmps51
  go_wp2_with (first
    | (go_at_call 68; refine hb.mono ?_; rintro e w1 ⟨rfl, ⟨s, hI, hsb, hsa⟩, hk⟩; obtain ⟨hR, hl', HA⟩ := HF.out _ _ hI hsb hsa; clear hsb hsa; obtain ⟨c0, c1, c2, c3, c4, c5, c6, c7, cf⟩ := hI.at_.cells)
    | (go_at_call 47; refine (refAt_any _ s.dir name _ _ hI.rD hl').mono ?_; rintro e w2 ⟨⟨i, rfl, hi⟩, rfl⟩; have hi0 := stands_neg hi (HA.out _ hi); clear hi; subst hi0))
  go_quiet (first | (go_at_call 48; exact Calls.quiet_of_same (hright _)))
  go_wp2_with (first | (go_at_call 48; refine (hright _).mono ?_; rintro e w2 ⟨rfl, rfl⟩))
  go_ret
  exact ⟨rfl, hR.drewN _, hk.drewN _⟩

set_option maxRecDepth 100000 in
set_option maxHeartbeats 4000000 in
theorem refAppend_bad61 (hb : Begins w r base a 6 1) (hl : a.dir.length ≤ 1000000000) (name : ByteArray) (hs : name.size ≤ maxLen) (hr : rn name = false) (bv : Value) (bs : List UInt8) (hbv : AB w base bv bs) :
    Calls Try.prog 51 #[.pointer (some ⟨r, 0, none⟩), .string name, bv] w fun e w' => e = .returned (.int .i64 6) ∧ RefIs w' r base a ∧ KT (refS base) w w' := by
  unfold Begins at hb
  have hright : ∀ w, Calls Try.prog 48 #[.string name] w fun e w' => e = .returned (.bool false) ∧ w' = w := fun w => by have := refRight_any name w hs; rw [hr] at this; exact this
  have HF : Hid (∀ w1 s, IsRef w1 r s → s.base = base → s.abs = a → RefIs w1 r base a ∧ s.dir.length ≤ 1000000000) := fun w1 s h1 h2 h3 => ⟨⟨s, h1, h2, h3⟩, by rw [← h3] at hl; exact hl⟩
  clear hl
  obtain ⟨ba, bc, hbs, _⟩ := hbv.1.shape
  subst hbs
  clear hbv
  go_enter Try.func51, Try.ntmps51
  go_wp2_with (first
    | (go_at_call 68; refine hb.mono ?_; rintro e w1 ⟨rfl, ⟨s, hI, hsb, hsa⟩, hk⟩; obtain ⟨hR, hl'⟩ := HF.out _ _ hI hsb hsa; clear hsb hsa; obtain ⟨c0, c1, c2, c3, c4, c5, c6, c7, cf⟩ := hI.at_.cells)
    | (go_at_call 47; refine (refAt_any _ s.dir name _ _ hI.rD hl').mono ?_; rintro e w2 ⟨⟨i, rfl, hi⟩, rfl⟩; clear hi))
  go_quiet (first | (go_at_call 48; exact Calls.quiet_of_same (hright _)))
  go_wp2_with (first | (go_at_call 48; refine (hright _).mono ?_; rintro e w2 ⟨rfl, rfl⟩))
  go_ret
  exact ⟨rfl, hR.drewN _, hk.drewN _⟩

set_option maxRecDepth 100000 in
set_option maxHeartbeats 4000000 in
theorem refAppend_none61 (hb : Begins w r base a 6 1) (hl : a.dir.length ≤ 1000000000) (name : ByteArray) (hs : name.size ≤ maxLen) (hr : rn name = true) (hat : ∀ i, Stands a.dir name i → i < 0) (bv : Value) (bs : List UInt8) (hbv : AB w base bv bs) :
    Calls Try.prog 51 #[.pointer (some ⟨r, 0, none⟩), .string name, bv] w fun e w' => e = .returned (.int .i64 6) ∧ RefIs w' r base a ∧ KT (refS base) w w' := by
  unfold Begins at hb
  have hright : ∀ w, Calls Try.prog 48 #[.string name] w fun e w' => e = .returned (.bool true) ∧ w' = w := fun w => by have := refRight_any name w hs; rw [hr] at this; exact this
  have HF : Hid (∀ w1 s, IsRef w1 r s → s.base = base → s.abs = a → RefIs w1 r base a ∧ s.dir.length ≤ 1000000000 ∧ Hid (∀ i, Stands s.dir name i → i < 0)) := fun w1 s h1 h2 h3 => ⟨⟨s, h1, h2, h3⟩, by rw [← h3] at hl; exact hl, by rw [← h3] at hat; exact hat⟩
  clear hl hat
  obtain ⟨ba, bc, hbs, _⟩ := hbv.1.shape
  subst hbs
  clear hbv
  go_enter Try.func51, Try.ntmps51
  go_wp2_with (first
    | (go_at_call 68; refine hb.mono ?_; rintro e w1 ⟨rfl, ⟨s, hI, hsb, hsa⟩, hk⟩; obtain ⟨hR, hl', HA⟩ := HF.out _ _ hI hsb hsa; clear hsb hsa; obtain ⟨c0, c1, c2, c3, c4, c5, c6, c7, cf⟩ := hI.at_.cells)
    | (go_at_call 47; refine (refAt_any _ s.dir name _ _ hI.rD hl').mono ?_; rintro e w2 ⟨⟨i, rfl, hi⟩, rfl⟩; have hi0 := stands_neg hi (HA.out _ hi); clear hi; subst hi0))
  go_quiet (first | (go_at_call 48; exact Calls.quiet_of_same (hright _)))
  go_wp2_with (first | (go_at_call 48; refine (hright _).mono ?_; rintro e w2 ⟨rfl, rfl⟩))
  go_ret
  exact ⟨rfl, hR.drewN _, hk.drewN _⟩

set_option maxRecDepth 100000 in
set_option maxHeartbeats 4000000 in
theorem refAppend_bad62 (hb : Begins w r base a 6 2) (hl : a.dir.length ≤ 1000000000) (name : ByteArray) (hs : name.size ≤ maxLen) (hr : rn name = false) (bv : Value) (bs : List UInt8) (hbv : AB w base bv bs) :
    Calls Try.prog 51 #[.pointer (some ⟨r, 0, none⟩), .string name, bv] w fun e w' => e = .returned (.int .i64 6) ∧ RefIs w' r base a ∧ KT (refS base) w w' := by
  unfold Begins at hb
  have hright : ∀ w, Calls Try.prog 48 #[.string name] w fun e w' => e = .returned (.bool false) ∧ w' = w := fun w => by have := refRight_any name w hs; rw [hr] at this; exact this
  have HF : Hid (∀ w1 s, IsRef w1 r s → s.base = base → s.abs = a → RefIs w1 r base a ∧ s.dir.length ≤ 1000000000) := fun w1 s h1 h2 h3 => ⟨⟨s, h1, h2, h3⟩, by rw [← h3] at hl; exact hl⟩
  clear hl
  obtain ⟨ba, bc, hbs, _⟩ := hbv.1.shape
  subst hbs
  clear hbv
  go_enter Try.func51, Try.ntmps51
  go_wp2_with (first
    | (go_at_call 68; refine hb.mono ?_; rintro e w1 ⟨rfl, ⟨s, hI, hsb, hsa⟩, hk⟩; obtain ⟨hR, hl'⟩ := HF.out _ _ hI hsb hsa; clear hsb hsa; obtain ⟨c0, c1, c2, c3, c4, c5, c6, c7, cf⟩ := hI.at_.cells)
    | (go_at_call 47; refine (refAt_any _ s.dir name _ _ hI.rD hl').mono ?_; rintro e w2 ⟨⟨i, rfl, hi⟩, rfl⟩; clear hi))
  go_quiet (first | (go_at_call 48; exact Calls.quiet_of_same (hright _)))
  go_wp2_with (first | (go_at_call 48; refine (hright _).mono ?_; rintro e w2 ⟨rfl, rfl⟩))
  go_ret
  exact ⟨rfl, hR.drewN _, hk.drewN _⟩

set_option maxRecDepth 100000 in
set_option maxHeartbeats 4000000 in
theorem refAppend_none62 (hb : Begins w r base a 6 2) (hl : a.dir.length ≤ 1000000000) (name : ByteArray) (hs : name.size ≤ maxLen) (hr : rn name = true) (hat : ∀ i, Stands a.dir name i → i < 0) (bv : Value) (bs : List UInt8) (hbv : AB w base bv bs) :
    Calls Try.prog 51 #[.pointer (some ⟨r, 0, none⟩), .string name, bv] w fun e w' => e = .returned (.int .i64 6) ∧ RefIs w' r base a ∧ KT (refS base) w w' := by
  unfold Begins at hb
  have hright : ∀ w, Calls Try.prog 48 #[.string name] w fun e w' => e = .returned (.bool true) ∧ w' = w := fun w => by have := refRight_any name w hs; rw [hr] at this; exact this
  have HF : Hid (∀ w1 s, IsRef w1 r s → s.base = base → s.abs = a → RefIs w1 r base a ∧ s.dir.length ≤ 1000000000 ∧ Hid (∀ i, Stands s.dir name i → i < 0)) := fun w1 s h1 h2 h3 => ⟨⟨s, h1, h2, h3⟩, by rw [← h3] at hl; exact hl, by rw [← h3] at hat; exact hat⟩
  clear hl hat
  obtain ⟨ba, bc, hbs, _⟩ := hbv.1.shape
  subst hbs
  clear hbv
  go_enter Try.func51, Try.ntmps51
  go_wp2_with (first
    | (go_at_call 68; refine hb.mono ?_; rintro e w1 ⟨rfl, ⟨s, hI, hsb, hsa⟩, hk⟩; obtain ⟨hR, hl', HA⟩ := HF.out _ _ hI hsb hsa; clear hsb hsa; obtain ⟨c0, c1, c2, c3, c4, c5, c6, c7, cf⟩ := hI.at_.cells)
    | (go_at_call 47; refine (refAt_any _ s.dir name _ _ hI.rD hl').mono ?_; rintro e w2 ⟨⟨i, rfl, hi⟩, rfl⟩; have hi0 := stands_neg hi (HA.out _ hi); clear hi; subst hi0))
  go_quiet (first | (go_at_call 48; exact Calls.quiet_of_same (hright _)))
  go_wp2_with (first | (go_at_call 48; refine (hright _).mono ?_; rintro e w2 ⟨rfl, rfl⟩))
  go_ret
  exact ⟨rfl, hR.drewN _, hk.drewN _⟩

end

end Go.Proofs.Ytipakfdebccchaa
