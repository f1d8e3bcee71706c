/- The document's disk: bytes are appended. -/
import Derived.Test.YtihoccaaecmcfaaR8
namespace Go.Proofs.Ytihoccaaecmcfaa
open Go.RowKit Go.Maps Go.Sort

theorem IsRef.drewN {w : World} {r : Nat} {s : RSt} (h : IsRef w r s) (n : Nat) : IsRef (w.drewN n) r s := h.kept ((Kept.refl (fun _ => False) w).drewN n) id (fun _ _ _ _ => id)
theorem RB.drewN {w : World} {v : Value} {bs : List UInt8} (h : RB w v bs) (n : Nat) : RB (w.drewN n) v bs := h.kept ((Kept.refl (fun _ => False) w).drewN n) (fun _ _ => id)
theorem KT.drewN {S : Nat → TypeId → Bool} {a b : World} (h : KT S a b) (n : Nat) : KT S a (b.drewN n) := Kept.drewN h n

set_option maxRecDepth 100000 in
set_option maxHeartbeats 4000000 in
/-- Append of some bytes, the operation not refused, the file there, and room. -/
theorem refAppend_ok {w : World} {r : Nat} {s : RSt} (name : ByteArray) (hb : Calls Try.prog 54 #[.pointer (some ⟨r, 0, none⟩)] w fun e w' => e = .returned (.tuple #[.int .i64 0, .int .i64 0]) ∧ IsRef w' r s ∧ KT (refS s.base) w w')
    (hs : name.size ≤ maxLen) (hr : rn name = true) (k m : Nat) (hk : k < s.dir.length) (hat : ∀ i, Stands s.dir name i → i = k) (hm : s.dir[k].2 = m) (hml : m < s.files.length)
    (hl : s.dir.length ≤ 1000000000) (hf : s.files.length ≤ 1000000000) (hw : Within_ s.files s.dir) (hu : usedL s.files s.dir ≤ 1000000000000) (hc0 : 0 ≤ s.cap) (hc1 : s.cap ≤ 9223372036854775807)
    (ol : List UInt8) (hol : ol = s.files[m].2.1) (bv : Value) (bs : List UInt8) (hbv : RB w bv bs) (hn : 0 < bs.length) (hroom : (bs.length : Int) ≤ s.cap - (usedL s.files s.dir : Int)) (hlb : ol.length + bs.length ≤ 1000000000) :
    Calls Try.prog 23 #[.pointer (some ⟨r, 0, none⟩), .string name, bv] w fun e w' => e = .returned (.int .i64 0) ∧ (∃ v, IsRef w' r (s.addTo m v (ol ++ bs))) ∧ KT (refS s.base) w w' := by
  have hright : ∀ w, Calls Try.prog 31 #[.string name] w fun e w' => e = .returned (.bool true) ∧ w' = w := fun w => by
    have := refRight_any name w hs
    rw [hr] at this
    exact this
  have HA : Hid (∀ i, Stands s.dir name i → i = k) := hat
  have HW : Hid (∀ w1, IsRef w1 r s → Calls Try.prog 41 #[.pointer (some ⟨r, 0, none⟩)] w1 fun e w' => e = .returned (.int .i64 (usedL s.files s.dir)) ∧ ∃ q, w' = w1.drewN q) := fun w1 h1 => refUsed_any h1 hw hl hu
  have HADD : Hid (∀ w1, IsRef w1 r s → RB w1 bv bs → Calls Try.prog 57 #[.pointer (some ⟨r, 0, none⟩), .int .i64 m, bv] w1 fun e w' => e = .returned (.tuple #[]) ∧ (∃ v, IsRef w' r (s.addTo m v (ol ++ bs))) ∧ KT (refS s.base) w1 w') := fun w1 h1 h2 => refAdd_any h1 m hml ol hol bv bs h2.at_ hlb hf
  have HRB : Hid (∀ w1, KT (refS s.base) w w1 → RB w1 bv bs) := fun w1 h1 => h1.rb hbv (noR rfl)
  have HE : Hid (∀ w1, IsRef w1 r s → ∃ g c, s.dv = .slice (some ⟨g, 0, none⟩) s.dir.length c ∧ w1.cell? ⟨g, k * 2 + 1, none⟩ = some (.int .i64 m)) := fun w1 h1 => by
    obtain ⟨g, c, hg⟩ := row_some h1.rD (by omega)
    have := (h1.entry hk hg).2
    rw [hm] at this
    exact ⟨g, c, hg, this⟩
  obtain ⟨ba, bc, hbs, _⟩ := hbv.at_.shape
  subst hbs
  have hn' : (0 : Int) < (bs.length : Int) := by omega
  have hn2 : ((bs.length : Int) == 0) = false := beq_eq_false_iff_ne.2 (by omega)
  have hn3 : decide ((bs.length : Int) = 0) = false := decide_eq_false (by omega)
  clear hat hw hol hbv hm hn
  generalize usedL s.files s.dir = ul at *
  generalize ol ++ bs = al at *
  go_enter Try.func23, Try.ntmps23
  go_wp2_with (first
    | (go_at_call 54; refine hb.mono ?_; rintro e w1 ⟨rfl, hI, hkt⟩; obtain ⟨c0, c1, c2, c3, c4, c5, c6, c7, cf⟩ := hI.at_.cells)
    | (go_at_call 55; refine (refAt_any _ s.dir name _ _ hI.rD hl).mono ?_; rintro e w1 ⟨⟨i, rfl, hi⟩, rfl⟩; have hneg := HA.out _ hi; clear hi; subst hneg))
  obtain ⟨g, gc, hg, he⟩ := HE.out _ hI
  rw [hg] at c2
  go_quiet (first | (go_at_call 31; exact Calls.quiet_of_same (hright _)) | (go_at_call 41; exact Calls.quiet_of (HW.out _ (hI.drewN _))))
  go_wp2_with (first
    | (go_at_call 31; refine (hright _).mono ?_; rintro e w2 ⟨rfl, rfl⟩)
    | (go_at_call 57; refine (HADD.out _ (hI.drewN nq) ((HRB.out _ hkt).drewN nq)).mono ?_; rintro e w2 ⟨rfl, hI2, hk2⟩))
  go_ret
  exact ⟨rfl, hI2, (hkt.drewN nq).trans hk2⟩

end Go.Proofs.Ytihoccaaecmcfaa
