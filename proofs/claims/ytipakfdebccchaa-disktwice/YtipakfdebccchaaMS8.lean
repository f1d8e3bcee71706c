/- The document's Append to a file that is there. -/
import Derived.Test.YtipakfdebccchaaMS7
namespace Go.Proofs.Ytipakfdebccchaa
open Go.RowKit Go.Maps Go.Sort

theorem i64_wrap {n : Int} (h : -9223372036854775808 ≤ n ∧ n ≤ 9223372036854775807) : IntKind.i64.wrap n = n := by rw [IntKind.wrap_i64]; omega

theorem step_call3 (w : World) {P : Program} {ops : Array Oper} {o : Oper} {a : Act} {K : Act → World → Prop} {Q : Exit → Act → World → Prop} {E : Prop} (hgd : o.guard = none) (f : Nat) (x y z : Operand) (t s q : TypeId)
    (ho : o.op = .call { callee := .value (.func f), args := #[x, y, z], argTypes := #[t, s, q] }) (v u p : Value) (hx : a.eval x = v) (hy : a.eval y = u) (hz : a.eval z = p) (he : ∀ args w, (callFunc f args).run P w = .ok (.enter f args) w) (R : Value → World → Prop)
    (hc : Calls P f #[v, u, p] w fun e w' => ∃ z, e = .returned z ∧ R z w') (h : ∀ z w', R z w' → K (a.put o.dst z) w') :
    if Region.wanted o (yielded ops a.tmps) = true then Oper.wp P o a w K Q else E := by
  have hw : Region.wanted o (yielded ops a.tmps) = true := by simp [Region.wanted, hgd]
  rw [if_pos hw]
  have hfn : a.eval (.func f) = .func (.func f) #[] #[] := rfl
  unfold Oper.wp execOp
  simp only [ho, resolve, hfn, hx, hy, hz, Sem.run_bind, List.map_toArray, List.map_cons, List.map_nil]
  simp only [Deferred.ofValue, invoke, Sem.run_pure, Result.andThen_ok, Array.append_empty, he]
  refine hc.mono ?_
  rintro e w' ⟨z, rfl, hz⟩
  exact h z w' hz


def RA.add (a : RA) (m : Nat) (x : List UInt8 × Int) : RA := { a with files := a.files.set m x }

section
variable {w : World} {r base : Nat} {a : RA} (hl : a.dir.length ≤ 1000000000) (hfl : a.files.length ≤ 1000000000) (hw : a.whole) (hu : a.used ≤ 1000000000000)
  (name : ByteArray) (hs : name.size ≤ maxLen) (hr : rn name = true) (k m : Nat) (hk : k < a.dir.length) (hat : ∀ i, Stands a.dir name i → i = k) (hf : a.dir[k].2 = m) (ol : List UInt8) (n0 : Int) (hm : a.files[m]? = some (ol, n0))
  (bv : Value) (bs : List UInt8) (hbv : AB w base bv bs) (hlb : ol.length + bs.length ≤ 1000000000)
include hl hfl hw hu hk hat hf hm hbv hlb

/-- What is known where the operation has begun. -/
theorem refAppend_ready : Hid (∀ w1 s, IsRef w1 r s → s.base = base → s.abs = a → KT (refS base) w w1 → RefIs w1 r base a ∧ s.dir.length ≤ 1000000000 ∧ (∃ g c, s.dv = .slice (some ⟨g, 0, none⟩) s.dir.length c ∧ w1.cell? ⟨g, k * 2 + 1, none⟩ = some (.int .i64 m)) ∧ k < s.dir.length ∧ s.cap = a.cap ∧
    Hid (∀ q, Calls Try.prog 30 #[.pointer (some ⟨r, 0, none⟩)] (w1.drewN q) fun e w' => e = .returned (.int .i64 a.used) ∧ ∃ q', w' = (w1.drewN q).drewN q') ∧
    Hid (∀ q vx xs, (∀ w2, BytesAt w2 bv bs → BytesAt w2 vx xs) → xs.length ≤ bs.length → Calls Try.prog 69 #[.pointer (some ⟨r, 0, none⟩), .int .i64 m, vx] (w1.drewN q) fun e w' => e = .returned (.tuple #[]) ∧ RefIs w' r base (a.add m (ol ++ xs, n0)) ∧ KT (refS base) w w') ∧
    Hid (∀ i, Stands s.dir name i → i = k)) := fun w1 s h1 h2 h3 h4 => by
  subst h3
  subst h2
  have hk' : k < s.dir.length := hk
  have hm' : (s.files.map Prod.snd)[m]? = some (ol, n0) := hm
  rw [List.getElem?_map, Option.map_eq_some_iff] at hm'
  obtain ⟨⟨v, x1, x2⟩, hx, hy⟩ := hm'
  simp at hy
  obtain ⟨rfl, rfl⟩ := hy
  obtain ⟨hml, hme⟩ := List.getElem?_eq_some_iff.1 hx
  have hfl' : s.files.length ≤ 1000000000 := by simpa [RSt.abs] using hfl
  refine ⟨⟨s, h1, rfl, rfl⟩, hl, ?_, hk', rfl, fun q => refUsed_is (base := s.base) ⟨s, h1.drewN q, rfl, rfl⟩ hw hl hu, fun q vx xs hvx hxl => ?_, hat⟩
  · obtain ⟨g, c, hg⟩ := row_some h1.rD (by omega)
    have := (h1.entry hk' hg).2
    have hf' : s.dir[k].2 = m := hf
    rw [hf'] at this
    exact ⟨g, c, hg, this⟩
  · have hb1 : BytesAt (w1.drewN q) bv bs := ((h4.drewN q).ab hbv).1
    refine (refAdd_any (h1.drewN q) m hml x1 (by rw [hme]) vx xs (hvx _ hb1) (by omega) hfl').mono ?_
    rintro e w' ⟨rfl, ⟨v', hI'⟩, hk''⟩
    refine ⟨rfl, ⟨_, hI', rfl, ?_⟩, (h4.drewN q).trans hk''⟩
    simp [RSt.abs, RSt.addTo, RA.add, List.map_set, hx]

include hs hr

set_option maxRecDepth 100000 in
set_option maxHeartbeats 4000000 in
theorem refAppend_nil00 (hb : Begins w r base a 0 0) (hn : bs.length = 0) :
    Calls Try.prog 51 #[.pointer (some ⟨r, 0, none⟩), .string name, bv] w fun e w' => e = .returned (.int .i64 0) ∧ RefIs w' r base (a.add m (ol ++ bs, n0)) ∧ KT (refS base) w w' := by
  unfold Begins at hb
  have HF := refAppend_ready (r := r) (base := base) hl hfl hw hu name k m hk hat hf ol n0 hm bv bs hbv hlb
  have hright : ∀ w, Calls Try.prog 48 #[.string name] w fun e w' => e = .returned (.bool true) ∧ w' = w := fun w => by have := refRight_any name w hs; rw [hr] at this; exact this
  have HC : Hid (∀ w2, BytesAt w2 bv bs → BytesAt w2 bv bs) := fun _ h => h
  have HK : Hid (∀ w2, BytesAt w2 bv bs → BytesAt w2 (cutV bv (bs.length / 2)) (bs.take (bs.length / 2))) := fun _ h => h.cut (Nat.div_le_self _ _)
  have hbx := hbv.1
  clear hl hfl hw hk hat hf hm hbv hlb
  generalize a.used = ul at *
  have e0 : bs = [] := List.eq_nil_of_length_eq_zero hn
  subst e0
  clear hn
  obtain ⟨ba, bc, hbs, _⟩ := hbx.shape
  subst hbs
  go_enter Try.func51, Try.ntmps51
  go_wp2_with (first
    | (go_at_call 68; refine hb.mono ?_; rintro e w1 ⟨rfl, ⟨s, hI, hsb, hsa⟩, hkt⟩; obtain ⟨hR, hl', ⟨g, gc, hg, hgc⟩, hk', hcap, HU, HADD, HA⟩ := HF.out _ _ hI hsb hsa hkt; clear hsb hsa; obtain ⟨c0, c1, c2, c3, c4, c5, c6, c7, cf⟩ := hI.at_.cells; rw [hcap] at c0; rw [hg] at c2; have hD := hI.rD; rw [hg] at hD; clear hg hcap)
    | (go_at_call 47; refine (refAt_any _ s.dir name _ _ hD hl').mono ?_; rintro e w2 ⟨⟨i, rfl, hi⟩, rfl⟩; have hi0 := HA.out _ hi; clear hi; subst hi0))
  go_quiet (first | (go_at_call 48; exact Calls.quiet_of_same (hright _)) | (go_at_call 30; exact Calls.quiet_of (HU.out _)))
  go_wp2_with (first | (go_at_call 48; refine (hright _).mono ?_; rintro e w2 ⟨rfl, rfl⟩) | (go_at_call 69; refine (HADD.out nq _ [] HC.out (Nat.le_refl _)).mono ?_; rintro e w2 ⟨rfl, hR2, hk2⟩))
  go_ret
  exact ⟨rfl, hR2, hk2⟩

set_option maxRecDepth 100000 in
set_option maxHeartbeats 4000000 in
theorem refAppend_nil61 (hb : Begins w r base a 6 1) (hn : bs.length = 0) :
    Calls Try.prog 51 #[.pointer (some ⟨r, 0, none⟩), .string name, bv] w fun e w' => e = .returned (.int .i64 6) ∧ RefIs w' r base a ∧ KT (refS base) w w' := by
  unfold Begins at hb
  have HF := refAppend_ready (r := r) (base := base) hl hfl hw hu name k m hk hat hf ol n0 hm bv bs hbv hlb
  have hright : ∀ w, Calls Try.prog 48 #[.string name] w fun e w' => e = .returned (.bool true) ∧ w' = w := fun w => by have := refRight_any name w hs; rw [hr] at this; exact this
  have HC : Hid (∀ w2, BytesAt w2 bv bs → BytesAt w2 bv bs) := fun _ h => h
  have HK : Hid (∀ w2, BytesAt w2 bv bs → BytesAt w2 (cutV bv (bs.length / 2)) (bs.take (bs.length / 2))) := fun _ h => h.cut (Nat.div_le_self _ _)
  have hbx := hbv.1
  clear hl hfl hw hk hat hf hm hbv hlb
  generalize a.used = ul at *
  have e0 : bs = [] := List.eq_nil_of_length_eq_zero hn
  subst e0
  clear hn
  obtain ⟨ba, bc, hbs, _⟩ := hbx.shape
  subst hbs
  go_enter Try.func51, Try.ntmps51
  go_wp2_with (first
    | (go_at_call 68; refine hb.mono ?_; rintro e w1 ⟨rfl, ⟨s, hI, hsb, hsa⟩, hkt⟩; obtain ⟨hR, hl', ⟨g, gc, hg, hgc⟩, hk', hcap, HU, HADD, HA⟩ := HF.out _ _ hI hsb hsa hkt; clear hsb hsa; obtain ⟨c0, c1, c2, c3, c4, c5, c6, c7, cf⟩ := hI.at_.cells; rw [hcap] at c0; rw [hg] at c2; have hD := hI.rD; rw [hg] at hD; clear hg hcap)
    | (go_at_call 47; refine (refAt_any _ s.dir name _ _ hD hl').mono ?_; rintro e w2 ⟨⟨i, rfl, hi⟩, rfl⟩; have hi0 := HA.out _ hi; clear hi; subst hi0))
  go_quiet (first | (go_at_call 48; exact Calls.quiet_of_same (hright _)) | (go_at_call 30; exact Calls.quiet_of (HU.out _)))
  go_wp2_with (first | (go_at_call 48; refine (hright _).mono ?_; rintro e w2 ⟨rfl, rfl⟩))
  go_ret
  exact ⟨rfl, hR.drewN _, hkt.drewN _⟩

set_option maxRecDepth 100000 in
set_option maxHeartbeats 4000000 in
theorem refAppend_nil62 (hb : Begins w r base a 6 2) (hn : bs.length = 0) :
    Calls Try.prog 51 #[.pointer (some ⟨r, 0, none⟩), .string name, bv] w fun e w' => e = .returned (.int .i64 6) ∧ RefIs w' r base (a.add m (ol ++ bs.take (bs.length / 2), n0)) ∧ KT (refS base) w w' := by
  unfold Begins at hb
  have HF := refAppend_ready (r := r) (base := base) hl hfl hw hu name k m hk hat hf ol n0 hm bv bs hbv hlb
  have hright : ∀ w, Calls Try.prog 48 #[.string name] w fun e w' => e = .returned (.bool true) ∧ w' = w := fun w => by have := refRight_any name w hs; rw [hr] at this; exact this
  have HC : Hid (∀ w2, BytesAt w2 bv bs → BytesAt w2 bv bs) := fun _ h => h
  have HK : Hid (∀ w2, BytesAt w2 bv bs → BytesAt w2 (cutV bv (bs.length / 2)) (bs.take (bs.length / 2))) := fun _ h => h.cut (Nat.div_le_self _ _)
  have hbx := hbv.1
  have heA : ∀ args w, (callFunc 69 args).run Try.prog w = .ok (.enter 69 args) w := enters_of Try.func69 (by kernel_rfl) rfl
  clear hl hfl hw hk hat hf hm hbv hlb
  generalize a.used = ul at *
  have e0 : bs = [] := List.eq_nil_of_length_eq_zero hn
  subst e0
  clear hn
  rcases hbx with ⟨rfl, e0⟩ | ⟨ad, c, rfl, hbc, hcm, _⟩
  · clear e0
    have hw0 : IntKind.i64.wrap 0 = 0 := i64_wrap (by omega)
    go_enter Try.func51, Try.ntmps51
    go_wp2_with (first
      | (go_at_call 68; refine hb.mono ?_; rintro e w1 ⟨rfl, ⟨s, hI, hsb, hsa⟩, hkt⟩; obtain ⟨hR, hl', ⟨g, gc, hg, hgc⟩, hk', hcap, HU, HADD, HA⟩ := HF.out _ _ hI hsb hsa hkt; clear hsb hsa; obtain ⟨c0, c1, c2, c3, c4, c5, c6, c7, cf⟩ := hI.at_.cells; rw [hcap] at c0; rw [hg] at c2; have hD := hI.rD; rw [hg] at hD; clear hg hcap)
      | (go_at_call 47; refine (refAt_any _ s.dir name _ _ hD hl').mono ?_; rintro e w2 ⟨⟨i, rfl, hi⟩, rfl⟩; have hi0 := HA.out _ hi; clear hi; subst hi0))
    go_quiet (first | (go_at_call 48; exact Calls.quiet_of_same (hright _)) | (go_at_call 30; exact Calls.quiet_of (HU.out _)))
    go_wp2_with (first | (go_at_call 48; refine (hright _).mono ?_; rintro e w2 ⟨rfl, rfl⟩) | (go_at_call 69; refine (HADD.out nq (.slice none 0 0) [] HK.out (by rw [List.length_take]; omega)).mono ?_; rintro e w2 ⟨rfl, hR2, hk2⟩))
    go_region_law (first | (refine step_call3 _ (by rfl) 69 _ _ _ _ _ _ (by rfl) _ _ _ (by rfl) (by rfl) (by rfl) heA (fun u w' => u = .tuple #[] ∧ RefIs w' r base _ ∧ KT (refS base) w w') ((HADD.out (nq + 1) (.slice none 0 0) [] HK.out (Nat.le_refl _)).mono (fun e w' h => ⟨_, h.1, rfl, h.2⟩)) ?_; rintro u w3 ⟨rfl, hR2, hk2⟩))
    all_goals
      go_wp2
      go_ret
      exact ⟨rfl, hR2, hk2⟩
  · have hw0 : IntKind.i64.wrap 0 = 0 := i64_wrap (by omega)
    have hc9 : (0 : Int) ≤ (c : Int) := by omega
    have hmx : (c : Int) ≤ 9223372036854775807 := by unfold maxLen at hcm; omega
    go_enter Try.func51, Try.ntmps51
    go_wp2_with (first
      | (go_at_call 68; refine hb.mono ?_; rintro e w1 ⟨rfl, ⟨s, hI, hsb, hsa⟩, hkt⟩; obtain ⟨hR, hl', ⟨g, gc, hg, hgc⟩, hk', hcap, HU, HADD, HA⟩ := HF.out _ _ hI hsb hsa hkt; clear hsb hsa; obtain ⟨c0, c1, c2, c3, c4, c5, c6, c7, cf⟩ := hI.at_.cells; rw [hcap] at c0; rw [hg] at c2; have hD := hI.rD; rw [hg] at hD; clear hg hcap)
      | (go_at_call 47; refine (refAt_any _ s.dir name _ _ hD hl').mono ?_; rintro e w2 ⟨⟨i, rfl, hi⟩, rfl⟩; have hi0 := HA.out _ hi; clear hi; subst hi0))
    go_quiet (first | (go_at_call 48; exact Calls.quiet_of_same (hright _)) | (go_at_call 30; exact Calls.quiet_of (HU.out _)))
    go_wp2_with (first | (go_at_call 48; refine (hright _).mono ?_; rintro e w2 ⟨rfl, rfl⟩) | (go_at_call 69; refine (HADD.out nq (.slice (some ad) 0 c) [] HK.out (by rw [List.length_take]; omega)).mono ?_; rintro e w2 ⟨rfl, hR2, hk2⟩))
    go_region_law (first | (refine step_call3 _ (by rfl) 69 _ _ _ _ _ _ (by rfl) _ _ _ (by rfl) (by rfl) (by rfl) heA (fun u w' => u = .tuple #[] ∧ RefIs w' r base _ ∧ KT (refS base) w w') ((HADD.out (nq + 1) (.slice (some ad) 0 c) [] HK.out (Nat.le_refl _)).mono (fun e w' h => ⟨_, h.1, rfl, h.2⟩)) ?_; rintro u w3 ⟨rfl, hR2, hk2⟩))
    all_goals
      go_wp2
      go_ret
      exact ⟨rfl, hR2, hk2⟩

set_option maxRecDepth 100000 in
set_option maxHeartbeats 4000000 in
theorem refAppend_some00 (hb : Begins w r base a 0 0) (hc0 : 0 ≤ a.cap) (hc1 : a.cap ≤ 9223372036854775807) (hn : 0 < bs.length) (hroom : (bs.length : Int) ≤ a.cap - (a.used : Int)) :
    Calls Try.prog 51 #[.pointer (some ⟨r, 0, none⟩), .string name, bv] w fun e w' => e = .returned (.int .i64 0) ∧ RefIs w' r base (a.add m (ol ++ bs, n0)) ∧ KT (refS base) w w' := by
  unfold Begins at hb
  have HF := refAppend_ready (r := r) (base := base) hl hfl hw hu name k m hk hat hf ol n0 hm bv bs hbv hlb
  have hright : ∀ w, Calls Try.prog 48 #[.string name] w fun e w' => e = .returned (.bool true) ∧ w' = w := fun w => by have := refRight_any name w hs; rw [hr] at this; exact this
  have HC : Hid (∀ w2, BytesAt w2 bv bs → BytesAt w2 bv bs) := fun _ h => h
  have HK : Hid (∀ w2, BytesAt w2 bv bs → BytesAt w2 (cutV bv (bs.length / 2)) (bs.take (bs.length / 2))) := fun _ h => h.cut (Nat.div_le_self _ _)
  have hbx := hbv.1
  clear hl hfl hw hk hat hf hm hbv hlb
  generalize a.used = ul at *
  obtain ⟨ba, bc, hbs, _⟩ := hbx.shape
  subst hbs
  have hn' : (0 : Int) < (bs.length : Int) := by omega
  have hn2 : ((bs.length : Int) == 0) = false := beq_eq_false_iff_ne.2 (by omega)
  have hn3 : decide ((bs.length : Int) = 0) = false := decide_eq_false (by omega)
  clear hn
  go_enter Try.func51, Try.ntmps51
  go_wp2_with (first
    | (go_at_call 68; refine hb.mono ?_; rintro e w1 ⟨rfl, ⟨s, hI, hsb, hsa⟩, hkt⟩; obtain ⟨hR, hl', ⟨g, gc, hg, hgc⟩, hk', hcap, HU, HADD, HA⟩ := HF.out _ _ hI hsb hsa hkt; clear hsb hsa; obtain ⟨c0, c1, c2, c3, c4, c5, c6, c7, cf⟩ := hI.at_.cells; rw [hcap] at c0; rw [hg] at c2; have hD := hI.rD; rw [hg] at hD; clear hg hcap)
    | (go_at_call 47; refine (refAt_any _ s.dir name _ _ hD hl').mono ?_; rintro e w2 ⟨⟨i, rfl, hi⟩, rfl⟩; have hi0 := HA.out _ hi; clear hi; subst hi0))
  go_quiet (first | (go_at_call 48; exact Calls.quiet_of_same (hright _)) | (go_at_call 30; exact Calls.quiet_of (HU.out _)))
  go_wp2_with (first | (go_at_call 48; refine (hright _).mono ?_; rintro e w2 ⟨rfl, rfl⟩) | (go_at_call 69; refine (HADD.out nq _ bs HC.out (Nat.le_refl _)).mono ?_; rintro e w2 ⟨rfl, hR2, hk2⟩))
  go_ret
  exact ⟨rfl, hR2, hk2⟩

set_option maxRecDepth 100000 in
set_option maxHeartbeats 4000000 in
theorem refAppend_some61 (hb : Begins w r base a 6 1) (hc0 : 0 ≤ a.cap) (hc1 : a.cap ≤ 9223372036854775807) (hn : 0 < bs.length) (hroom : (bs.length : Int) ≤ a.cap - (a.used : Int)) :
    Calls Try.prog 51 #[.pointer (some ⟨r, 0, none⟩), .string name, bv] w fun e w' => e = .returned (.int .i64 6) ∧ RefIs w' r base a ∧ KT (refS base) w w' := by
  unfold Begins at hb
  have HF := refAppend_ready (r := r) (base := base) hl hfl hw hu name k m hk hat hf ol n0 hm bv bs hbv hlb
  have hright : ∀ w, Calls Try.prog 48 #[.string name] w fun e w' => e = .returned (.bool true) ∧ w' = w := fun w => by have := refRight_any name w hs; rw [hr] at this; exact this
  have HC : Hid (∀ w2, BytesAt w2 bv bs → BytesAt w2 bv bs) := fun _ h => h
  have HK : Hid (∀ w2, BytesAt w2 bv bs → BytesAt w2 (cutV bv (bs.length / 2)) (bs.take (bs.length / 2))) := fun _ h => h.cut (Nat.div_le_self _ _)
  have hbx := hbv.1
  clear hl hfl hw hk hat hf hm hbv hlb
  generalize a.used = ul at *
  obtain ⟨ba, bc, hbs, _⟩ := hbx.shape
  subst hbs
  have hn' : (0 : Int) < (bs.length : Int) := by omega
  have hn2 : ((bs.length : Int) == 0) = false := beq_eq_false_iff_ne.2 (by omega)
  have hn3 : decide ((bs.length : Int) = 0) = false := decide_eq_false (by omega)
  clear hn
  go_enter Try.func51, Try.ntmps51
  go_wp2_with (first
    | (go_at_call 68; refine hb.mono ?_; rintro e w1 ⟨rfl, ⟨s, hI, hsb, hsa⟩, hkt⟩; obtain ⟨hR, hl', ⟨g, gc, hg, hgc⟩, hk', hcap, HU, HADD, HA⟩ := HF.out _ _ hI hsb hsa hkt; clear hsb hsa; obtain ⟨c0, c1, c2, c3, c4, c5, c6, c7, cf⟩ := hI.at_.cells; rw [hcap] at c0; rw [hg] at c2; have hD := hI.rD; rw [hg] at hD; clear hg hcap)
    | (go_at_call 47; refine (refAt_any _ s.dir name _ _ hD hl').mono ?_; rintro e w2 ⟨⟨i, rfl, hi⟩, rfl⟩; have hi0 := HA.out _ hi; clear hi; subst hi0))
  go_quiet (first | (go_at_call 48; exact Calls.quiet_of_same (hright _)) | (go_at_call 30; exact Calls.quiet_of (HU.out _)))
  go_wp2_with (first | (go_at_call 48; refine (hright _).mono ?_; rintro e w2 ⟨rfl, rfl⟩))
  go_ret
  exact ⟨rfl, hR.drewN _, hkt.drewN _⟩

set_option maxRecDepth 100000 in
set_option maxHeartbeats 4000000 in
theorem refAppend_some62 (hb : Begins w r base a 6 2) (hc0 : 0 ≤ a.cap) (hc1 : a.cap ≤ 9223372036854775807) (hn : 0 < bs.length) (hroom : (bs.length : Int) ≤ a.cap - (a.used : Int)) :
    Calls Try.prog 51 #[.pointer (some ⟨r, 0, none⟩), .string name, bv] w fun e w' => e = .returned (.int .i64 6) ∧ RefIs w' r base (a.add m (ol ++ bs.take (bs.length / 2), n0)) ∧ KT (refS base) w w' := by
  unfold Begins at hb
  have HF := refAppend_ready (r := r) (base := base) hl hfl hw hu name k m hk hat hf ol n0 hm bv bs hbv hlb
  have hright : ∀ w, Calls Try.prog 48 #[.string name] w fun e w' => e = .returned (.bool true) ∧ w' = w := fun w => by have := refRight_any name w hs; rw [hr] at this; exact this
  have HC : Hid (∀ w2, BytesAt w2 bv bs → BytesAt w2 bv bs) := fun _ h => h
  have HK : Hid (∀ w2, BytesAt w2 bv bs → BytesAt w2 (cutV bv (bs.length / 2)) (bs.take (bs.length / 2))) := fun _ h => h.cut (Nat.div_le_self _ _)
  have hbx := hbv.1
  have heA : ∀ args w, (callFunc 69 args).run Try.prog w = .ok (.enter 69 args) w := enters_of Try.func69 (by kernel_rfl) rfl
  clear hl hfl hw hk hat hf hm hbv hlb
  generalize a.used = ul at *
  rcases hbx with ⟨rfl, e0⟩ | ⟨ad, c, rfl, hbc, hcm, _⟩
  · subst e0
    simp at hn
  · obtain ⟨q, hq⟩ : ∃ q, q = bs.length / 2 := ⟨_, rfl⟩
    rw [← hq] at HK ⊢
    obtain ⟨n, hnn⟩ : ∃ n, n = bs.length := ⟨_, rfl⟩
    have HN : Hid (n = bs.length) := hnn
    have hqm : q ≤ n := by omega
    have hqi : (n : Int).tdiv 2 = (q : Int) := by rw [Int.tdiv_eq_ediv_of_nonneg (by omega)]; omega
    have hqi2 : (n : Int) / 2 = (q : Int) := by omega
    have hqc : (q : Int) ≤ (c : Int) := by omega
    have hqw : IntKind.i64.wrap (q : Int) = (q : Int) := i64_wrap (by unfold maxLen at hcm; omega)
    have hq0 : (0 : Int) ≤ (q : Int) := by omega
    have hqt : ((q : Int)).toNat = q := by omega
    have hmx : (c : Int) ≤ 9223372036854775807 := by unfold maxLen at hcm; omega
    rw [← hnn] at hn hroom hbc ⊢
    have hn' : (0 : Int) < (n : Int) := by omega
    have hn2 : ((n : Int) == 0) = false := beq_eq_false_iff_ne.2 (by omega)
    have hn3 : decide ((n : Int) = 0) = false := decide_eq_false (by omega)
    have HQ : Hid ((bs.take q).length ≤ bs.length) := by show _ ≤ _; rw [List.length_take]; omega
    clear hq hnn hn
    go_enter Try.func51, Try.ntmps51
    go_wp2_with (first
      | (go_at_call 68; refine hb.mono ?_; rintro e w1 ⟨rfl, ⟨s, hI, hsb, hsa⟩, hkt⟩; obtain ⟨hR, hl', ⟨g, gc, hg, hgc⟩, hk', hcap, HU, HADD, HA⟩ := HF.out _ _ hI hsb hsa hkt; clear hsb hsa; obtain ⟨c0, c1, c2, c3, c4, c5, c6, c7, cf⟩ := hI.at_.cells; rw [hcap] at c0; rw [hg] at c2; have hD := hI.rD; rw [hg] at hD; clear hg hcap)
      | (go_at_call 47; refine (refAt_any _ s.dir name _ _ hD hl').mono ?_; rintro e w2 ⟨⟨i, rfl, hi⟩, rfl⟩; have hi0 := HA.out _ hi; clear hi; subst hi0))
    go_quiet (first | (go_at_call 48; exact Calls.quiet_of_same (hright _)) | (go_at_call 30; exact Calls.quiet_of (HU.out _)))
    go_wp2_with (first | (go_at_call 48; refine (hright _).mono ?_; rintro e w2 ⟨rfl, rfl⟩) | (go_at_call 69; refine (HADD.out nq (.slice (some ad) q c) (bs.take q) HK.out HQ.out).mono ?_; rintro e w2 ⟨rfl, hR2, hk2⟩))
    go_region_law (first | (refine step_call3 _ (by rfl) 69 _ _ _ _ _ _ (by rfl) _ _ _ (by rfl) (by rfl) (by rfl) heA (fun u w' => u = .tuple #[] ∧ RefIs w' r base _ ∧ KT (refS base) w w') ((HADD.out (nq + 1) (.slice (some ad) q c) (bs.take q) HK.out HQ.out).mono (fun e w' h => ⟨_, h.1, rfl, h.2⟩)) ?_; rintro u w3 ⟨rfl, hR2, hk2⟩))
    all_goals
      go_wp2
      go_ret
      exact ⟨rfl, hR2, hk2⟩

set_option maxRecDepth 100000 in
set_option maxHeartbeats 4000000 in
theorem refAppend_full00 (hb : Begins w r base a 0 0) (hc0 : 0 ≤ a.cap) (hc1 : a.cap ≤ 9223372036854775807) (hn : 0 < bs.length) (hroom : a.cap - (a.used : Int) < (bs.length : Int)) :
    Calls Try.prog 51 #[.pointer (some ⟨r, 0, none⟩), .string name, bv] w fun e w' => e = .returned (.int .i64 5) ∧ RefIs w' r base a ∧ KT (refS base) w w' := by
  unfold Begins at hb
  have HF := refAppend_ready (r := r) (base := base) hl hfl hw hu name k m hk hat hf ol n0 hm bv bs hbv hlb
  have hright : ∀ w, Calls Try.prog 48 #[.string name] w fun e w' => e = .returned (.bool true) ∧ w' = w := fun w => by have := refRight_any name w hs; rw [hr] at this; exact this
  have HC : Hid (∀ w2, BytesAt w2 bv bs → BytesAt w2 bv bs) := fun _ h => h
  have HK : Hid (∀ w2, BytesAt w2 bv bs → BytesAt w2 (cutV bv (bs.length / 2)) (bs.take (bs.length / 2))) := fun _ h => h.cut (Nat.div_le_self _ _)
  have hbx := hbv.1
  clear hl hfl hw hk hat hf hm hbv hlb
  generalize a.used = ul at *
  obtain ⟨ba, bc, hbs, _⟩ := hbx.shape
  subst hbs
  have hn' : (0 : Int) < (bs.length : Int) := by omega
  have hn2 : ((bs.length : Int) == 0) = false := beq_eq_false_iff_ne.2 (by omega)
  have hn3 : decide ((bs.length : Int) = 0) = false := decide_eq_false (by omega)
  clear hn
  have hwr : wrap64 (a.cap - (ul : Int)) = a.cap - (ul : Int) := by unfold wrap64; omega
  have hfd : decide ((bs.length : Int) ≤ a.cap - (ul : Int)) = false := decide_eq_false (by omega)
  go_enter Try.func51, Try.ntmps51
  go_wp2_with (first
    | (go_at_call 68; refine hb.mono ?_; rintro e w1 ⟨rfl, ⟨s, hI, hsb, hsa⟩, hkt⟩; obtain ⟨hR, hl', ⟨g, gc, hg, hgc⟩, hk', hcap, HU, HADD, HA⟩ := HF.out _ _ hI hsb hsa hkt; clear hsb hsa; obtain ⟨c0, c1, c2, c3, c4, c5, c6, c7, cf⟩ := hI.at_.cells; rw [hcap] at c0; rw [hg] at c2; have hD := hI.rD; rw [hg] at hD; clear hg hcap)
    | (go_at_call 47; refine (refAt_any _ s.dir name _ _ hD hl').mono ?_; rintro e w2 ⟨⟨i, rfl, hi⟩, rfl⟩; have hi0 := HA.out _ hi; clear hi; subst hi0))
  go_quiet (first | (go_at_call 48; exact Calls.quiet_of_same (hright _)) | (go_at_call 30; exact Calls.quiet_of (HU.out _)))
  go_wp2_with (first | (go_at_call 48; refine (hright _).mono ?_; rintro e w2 ⟨rfl, rfl⟩))
  go_ret
  exact ⟨rfl, hR.drewN _, hkt.drewN _⟩

set_option maxRecDepth 100000 in
set_option maxHeartbeats 4000000 in
theorem refAppend_full61 (hb : Begins w r base a 6 1) (hc0 : 0 ≤ a.cap) (hc1 : a.cap ≤ 9223372036854775807) (hn : 0 < bs.length) (hroom : a.cap - (a.used : Int) < (bs.length : Int)) :
    Calls Try.prog 51 #[.pointer (some ⟨r, 0, none⟩), .string name, bv] w fun e w' => e = .returned (.int .i64 6) ∧ RefIs w' r base a ∧ KT (refS base) w w' := by
  unfold Begins at hb
  have HF := refAppend_ready (r := r) (base := base) hl hfl hw hu name k m hk hat hf ol n0 hm bv bs hbv hlb
  have hright : ∀ w, Calls Try.prog 48 #[.string name] w fun e w' => e = .returned (.bool true) ∧ w' = w := fun w => by have := refRight_any name w hs; rw [hr] at this; exact this
  have HC : Hid (∀ w2, BytesAt w2 bv bs → BytesAt w2 bv bs) := fun _ h => h
  have HK : Hid (∀ w2, BytesAt w2 bv bs → BytesAt w2 (cutV bv (bs.length / 2)) (bs.take (bs.length / 2))) := fun _ h => h.cut (Nat.div_le_self _ _)
  have hbx := hbv.1
  clear hl hfl hw hk hat hf hm hbv hlb
  generalize a.used = ul at *
  obtain ⟨ba, bc, hbs, _⟩ := hbx.shape
  subst hbs
  have hn' : (0 : Int) < (bs.length : Int) := by omega
  have hn2 : ((bs.length : Int) == 0) = false := beq_eq_false_iff_ne.2 (by omega)
  have hn3 : decide ((bs.length : Int) = 0) = false := decide_eq_false (by omega)
  clear hn
  have hwr : wrap64 (a.cap - (ul : Int)) = a.cap - (ul : Int) := by unfold wrap64; omega
  have hfd : decide ((bs.length : Int) ≤ a.cap - (ul : Int)) = false := decide_eq_false (by omega)
  go_enter Try.func51, Try.ntmps51
  go_wp2_with (first
    | (go_at_call 68; refine hb.mono ?_; rintro e w1 ⟨rfl, ⟨s, hI, hsb, hsa⟩, hkt⟩; obtain ⟨hR, hl', ⟨g, gc, hg, hgc⟩, hk', hcap, HU, HADD, HA⟩ := HF.out _ _ hI hsb hsa hkt; clear hsb hsa; obtain ⟨c0, c1, c2, c3, c4, c5, c6, c7, cf⟩ := hI.at_.cells; rw [hcap] at c0; rw [hg] at c2; have hD := hI.rD; rw [hg] at hD; clear hg hcap)
    | (go_at_call 47; refine (refAt_any _ s.dir name _ _ hD hl').mono ?_; rintro e w2 ⟨⟨i, rfl, hi⟩, rfl⟩; have hi0 := HA.out _ hi; clear hi; subst hi0))
  go_quiet (first | (go_at_call 48; exact Calls.quiet_of_same (hright _)) | (go_at_call 30; exact Calls.quiet_of (HU.out _)))
  go_wp2_with (first | (go_at_call 48; refine (hright _).mono ?_; rintro e w2 ⟨rfl, rfl⟩))
  go_ret
  exact ⟨rfl, hR.drewN _, hkt.drewN _⟩

set_option maxRecDepth 100000 in
set_option maxHeartbeats 4000000 in
theorem refAppend_full62 (hb : Begins w r base a 6 2) (hc0 : 0 ≤ a.cap) (hc1 : a.cap ≤ 9223372036854775807) (hn : 0 < bs.length) (hroom : a.cap - (a.used : Int) < (bs.length : Int)) :
    Calls Try.prog 51 #[.pointer (some ⟨r, 0, none⟩), .string name, bv] w fun e w' => e = .returned (.int .i64 6) ∧ RefIs w' r base a ∧ KT (refS base) w w' := by
  unfold Begins at hb
  have HF := refAppend_ready (r := r) (base := base) hl hfl hw hu name k m hk hat hf ol n0 hm bv bs hbv hlb
  have hright : ∀ w, Calls Try.prog 48 #[.string name] w fun e w' => e = .returned (.bool true) ∧ w' = w := fun w => by have := refRight_any name w hs; rw [hr] at this; exact this
  have HC : Hid (∀ w2, BytesAt w2 bv bs → BytesAt w2 bv bs) := fun _ h => h
  have HK : Hid (∀ w2, BytesAt w2 bv bs → BytesAt w2 (cutV bv (bs.length / 2)) (bs.take (bs.length / 2))) := fun _ h => h.cut (Nat.div_le_self _ _)
  have hbx := hbv.1
  clear hl hfl hw hk hat hf hm hbv hlb
  generalize a.used = ul at *
  obtain ⟨ba, bc, hbs, _⟩ := hbx.shape
  subst hbs
  have hn' : (0 : Int) < (bs.length : Int) := by omega
  have hn2 : ((bs.length : Int) == 0) = false := beq_eq_false_iff_ne.2 (by omega)
  have hn3 : decide ((bs.length : Int) = 0) = false := decide_eq_false (by omega)
  clear hn
  have hwr : wrap64 (a.cap - (ul : Int)) = a.cap - (ul : Int) := by unfold wrap64; omega
  have hfd : decide ((bs.length : Int) ≤ a.cap - (ul : Int)) = false := decide_eq_false (by omega)
  go_enter Try.func51, Try.ntmps51
  go_wp2_with (first
    | (go_at_call 68; refine hb.mono ?_; rintro e w1 ⟨rfl, ⟨s, hI, hsb, hsa⟩, hkt⟩; obtain ⟨hR, hl', ⟨g, gc, hg, hgc⟩, hk', hcap, HU, HADD, HA⟩ := HF.out _ _ hI hsb hsa hkt; clear hsb hsa; obtain ⟨c0, c1, c2, c3, c4, c5, c6, c7, cf⟩ := hI.at_.cells; rw [hcap] at c0; rw [hg] at c2; have hD := hI.rD; rw [hg] at hD; clear hg hcap)
    | (go_at_call 47; refine (refAt_any _ s.dir name _ _ hD hl').mono ?_; rintro e w2 ⟨⟨i, rfl, hi⟩, rfl⟩; have hi0 := HA.out _ hi; clear hi; subst hi0))
  go_quiet (first | (go_at_call 48; exact Calls.quiet_of_same (hright _)) | (go_at_call 30; exact Calls.quiet_of (HU.out _)))
  go_wp2_with (first | (go_at_call 48; refine (hright _).mono ?_; rintro e w2 ⟨rfl, rfl⟩))
  go_ret
  exact ⟨rfl, hR.drewN _, hkt.drewN _⟩

end

end Go.Proofs.Ytipakfdebccchaa
