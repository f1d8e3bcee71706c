/- Stop, Fault, SetCapacity: the pair does them. -/
import Derived.Test.YtipakfdebccchaaMJ2
namespace Go.Proofs.Ytipakfdebccchaa
open Go.RowKit Go.Maps Go.Sort

theorem PS.notOwn {w : World} {d base k : Nat} {Z : Nat → Prop} {a : RA} {s : St} {fs : Nat → FileV} {blk : List Nat} (h : PS w d base k Z a s fs blk) {g : Nat} {cs : Array Value} {t : TypeId} {fr : Nat × Nat} (e : w.heap[g]? = some (.cells cs t fr)) (e1 : t ≠ 59) (e2 : t ≠ 101) (e3 : t ≠ 72) : ¬ (s.own d g ∨ g ∈ blk) := by
  rintro (hg | hg)
  · rcases hg with rfl | rfl | rfl | rfl | hg
    · have := h.disk.at_
      unfold DiskAt at this
      rw [e] at this
      simp at this
      exact e1 this.2.1
    · obtain ⟨es, c, e', _⟩ := h.disk.mN
      rw [e] at e'; cases e'
    · obtain ⟨es, c, e', _⟩ := h.disk.mD
      rw [e] at e'; cases e'
    · obtain ⟨es, c, e', _⟩ := h.disk.mF
      rw [e] at e'; cases e'
    · obtain ⟨cs', fr', e'⟩ := row_block h.disk.row hg
      rw [e] at e'
      simp at e'
      exact e2 e'.2.1
  · have := (h.files.at_ g hg).at_
    skip
    rw [e] at this
    simp at this
    exact e3 this.2.1

theorem Mid2.drew {w0 W w1 : World} {p d r B base k : Nat} {x : OpV} {act : Int} {a b : RA} (h : Mid2 w0 W w1 p d r B base k x act a b) : Mid2 w0 W w1.drew p d r B base k x act a b := by
  have hb : Below w1.heap.size w1 w1.drew := (Below.refl _ w1).drew
  exact ⟨h.both.below hb, h.prog.below hb, h.doc.below hb, h.bel.drew⟩

section
variable {w : World} {d base k c : Nat} {Z : Nat → Prop} {a : RA} {s : St} {fs : Nat → FileV} {blk : List Nat} (h : PS w d base k Z a s fs blk)
include h
theorem PS.more : s.n ≤ (k + 1) * 1000 := Nat.le_trans h.n (Nat.mul_le_mul_right _ (Nat.le_succ k))
theorem P_stop (n : Int) (hn : n ≤ 9223372036854775807) : Calls Try.prog 20 #[.pointer (some ⟨d, 0, none⟩), .int .i64 n] w fun e w' => e = .returned (.tuple #[]) ∧ PIs w' d base (k + 1) (newZ Z w w') { a with stop := max n 0 } ∧ KP Z base w w' :=
  (stop_any h.disk n hn).mono (fun _e _w' ⟨he, hI, hk⟩ => ⟨he, h.turn hI hk (fun _i hi => Or.inl hi) rfl h.cap rfl h.ops h.mN h.mD h.pend h.used h.flt h.more⟩)
theorem P_cap (n : Int) : Calls Try.prog 24 #[.pointer (some ⟨d, 0, none⟩), .int .i64 n] w fun e w' => e = .returned (.tuple #[]) ∧ PIs w' d base (k + 1) (newZ Z w w') { a with cap := max n 0 } ∧ KP Z base w w' :=
  (setCap_any h.disk n).mono (fun _e _w' ⟨he, hI, hk⟩ => ⟨he, h.turn hI hk (fun _i hi => Or.inl hi) rfl rfl h.stop h.ops h.mN h.mD h.pend h.used h.flt h.more⟩)
theorem P_fault (hi : Inv k c a) (hk : k ≤ 1000) (hc : c ≤ 1000) (n kd : Int) (hn : n ≤ 9223372036854775807) (hkd : (Lit.int .i64 kd).wf = true) : Calls Try.prog 18 #[.pointer (some ⟨d, 0, none⟩), .int .i64 n, .int .i64 kd] w fun e w' => e = .returned (.tuple #[]) ∧ PIs w' d base (k + 1) (newZ Z w w') { a with faults := a.faults ++ [(max n 0, kd)] } ∧ KP Z base w w' := by
  have hops := h.ops
  have hc1 := hi.c1
  have hn0 := h.n
  have ho : s.ops < 1000000000 := by omega
  have same : FaultIs s.F a.cnt (a.faults ++ [(max n 0, kd)]) → PIs w d base (k + 1) (newZ Z w w) { a with faults := a.faults ++ [(max n 0, kd)] } ∧ KP Z base w w := fun hF => h.turn h.disk (Kept.refl _ w) (fun i hi => Or.inl hi) rfl h.cap h.stop h.ops h.mN h.mD h.pend h.used hF h.more
  by_cases hf : 9223372036854775807 < s.ops + max n 0
  · refine (fault_far h.disk ho n kd hf hn).mono ?_
    rintro e w' ⟨he, rfl⟩
    exact ⟨he, same (h.flt.far (by show _ < a.cnt + max n 0; omega))⟩
  · have hf' : s.ops + max n 0 ≤ 9223372036854775807 := by omega
    cases hh : Maps.has s.F (.int .i64 (s.ops + max n 0)) with
    | true =>
      refine (fault_had h.disk ho n kd (by omega) hh).mono ?_
      rintro e w' ⟨he, rfl⟩
      exact ⟨he, same (h.flt.had (by show a.cnt + max n 0 ≤ _; omega) (by show Maps.has s.F (.int .i64 (a.cnt + max n 0)) = true; rw [← hops]; exact hh))⟩
    | false =>
      refine (fault_new h.disk ho n kd (by omega) hh hkd (by omega)).mono ?_
      rintro e w' ⟨he, hI, hk'⟩
      refine ⟨he, h.turn hI hk' (fun i hi => Or.inl hi) rfl h.cap h.stop h.ops h.mN h.mD h.pend h.used ?_ ?_⟩
      · show FaultIs (s.F.put (.int .i64 (s.ops + max n 0)) (.lit (.int .i64 kd))) a.cnt (a.faults ++ [(max n 0, kd)])
        rw [hops] at hh ⊢
        exact h.flt.new (x := (max n 0, kd)) (by show a.cnt + max n 0 ≤ _; omega) hh
      · show s.n + 1 ≤ (k + 1) * 1000
        omega
end

/-- The boxed operation with its act brought into range. -/
theorem boxed {w : World} {p d r base k : Nat} {a : RA} (h : PW w p d r base k a) (x : OpV) (hbw : base ≤ w.heap.size) (act : Int) (w1 : World) (hw : w1 = w.alloc (.cells #[.int .i64 act, .int .i64 x.n, .int .i64 x.k, .string x.name, .string x.dest, x.bv, x.cv] 34)) :
    Both p d r w.heap.size x act w1 ∧ PW w1 p d r base k a ∧ Below w.heap.size w w1 ∧ Below base w w1 ∧ base ≤ w1.heap.size := by
  have hb : Below w.heap.size w w1 := by
    rw [hw]
    exact (Below.refl _ w).alloc (Nat.le_refl _) _
  refine ⟨⟨(h.below hb).pair, ?_⟩, h.below hb, hb, hb.mono hbw, Nat.le_trans hbw hb.size⟩
  rw [hw]
  exact heap_alloc_new w _

set_option maxRecDepth 100000 in
set_option maxHeartbeats 2000000 in
theorem does_stop {w : World} {p d r base k : Nat} {a : RA} (h : PW w p d r base k a) (_hk : k ≤ 999) (x : OpV) (hbw : base ≤ w.heap.size) (hact : x.act % 11 = 7) (ha1 : -9223372036854775808 ≤ x.act) (ha2 : x.act ≤ 9223372036854775807) (hn : x.n ≤ 9223372036854775807) :
    Calls Try.prog 7 #[.pointer (some ⟨p, 0, none⟩), .agg #[.int .i64 x.act, .int .i64 x.n, .int .i64 x.k, .string x.name, .string x.dest, x.bv, x.cv]] w fun e w' => e = .returned (.bool true) ∧ Done w w' p d r base k ({ a with stop := max x.n 0 } : RA) := by
  have HP : Hid (∀ W, Both p d r w.heap.size x 7 W → PW W p d r base k a → Below base w W → base ≤ W.heap.size → Calls Try.prog 20 #[.pointer (some ⟨d, 0, none⟩), .int .i64 x.n] W fun e w1 => e = .returned (.tuple #[]) ∧ Mid2 w W w1 p d r w.heap.size base k x 7 a ({ a with stop := max x.n 0 } : RA) ∧ base ≤ w1.heap.size) := fun W hB hW hbel hb => by
    obtain ⟨s, fs, blk, hP⟩ := hW.prog
    exact (P_stop hP x.n hn).mono (fun e w1 ⟨he, hP1, hK⟩ => ⟨he, mid_of hB hW hbel hb hP1 hK, Nat.le_trans hb hK.size⟩)
  have HD : Hid (∀ W w1, Mid2 w W w1 p d r w.heap.size base k x 7 a ({ a with stop := max x.n 0 } : RA) → base ≤ w1.heap.size → Calls Try.prog 21 #[.pointer (some ⟨r, 0, none⟩), .int .i64 x.n] w1 fun e w2 => e = .returned (.tuple #[]) ∧ Both p d r w.heap.size x 7 w2 ∧ Done w w2 p d r base k ({ a with stop := max x.n 0 } : RA)) := fun W w1 hM hb => by
    exact (refStop_is hM.doc x.n).mono (fun e w2 ⟨he, hR, hK⟩ => ⟨he, done_of hM (h.inv.stop hn) hb hR hK⟩)
  have HS : Hid (∀ w1, w1 = _ → _) := boxed h x hbw 7
  have HW : Hid (∀ W, Calls Try.prog 17 #[.int .i64 x.act, .int .i64 11] W fun e w' => e = .returned (.int .i64 7) ∧ w' = W) := fun W => by
    rw [← hact]
    exact within_any x.act 11 W (by decide) (by decide) ha1 ha2
  clear h hact ha1 ha2 hn
  generalize hb : ({ a with stop := max x.n 0 } : RA) = b at *
  clear hb
  go_enter Try.func7, Try.ntmps7
  go_wp2_with (go_at_call 17; refine (HW.out _).mono ?_; rintro e w1 ⟨rfl, rfl⟩)
  refine goOn (S := fun W => Both p d r w.heap.size x 7 W ∧ PW W p d r base k a ∧ Below w.heap.size w W ∧ Below base w W ∧ base ≤ W.heap.size) (HS.out _ rfl) ?_
  rintro W ⟨hB, hW, _, hbl, hbz⟩
  obtain ⟨b0, b1, b2, b3, b4, b5, b6, b7, b8, _⟩ := hB.all
  have HPW : Hid (Calls Try.prog 20 #[.pointer (some ⟨d, 0, none⟩), .int .i64 x.n] W.drew fun e w1 => e = .returned (.tuple #[]) ∧ Mid2 w W.drew w1 p d r w.heap.size base k x 7 a b ∧ base ≤ w1.heap.size) := HP.out W.drew (hB.below (Below.refl _ W).drew) (hW.below (Below.refl _ W).drew) hbl.drew hbz
  clear hW hbl hbz HP HS
  go_wp2_with fail
  go_region_held3 (fun w' => w'.cell? ⟨p, 0, none⟩ = some (.pointer (some ⟨d, 0, none⟩)) ∧ w'.cell? ⟨p, 1, none⟩ = some (.pointer (some ⟨r, 0, none⟩)) ∧ w'.cell? ⟨w.heap.size, 0, none⟩ = some (.int .i64 7) ∧ w'.cell? ⟨w.heap.size, 1, none⟩ = some (.int .i64 x.n) ∧ w'.cell? ⟨w.heap.size, 2, none⟩ = some (.int .i64 x.k) ∧ w'.cell? ⟨w.heap.size, 3, none⟩ = some (.string x.name) ∧ w'.cell? ⟨w.heap.size, 4, none⟩ = some (.string x.dest) ∧ w'.cell? ⟨w.heap.size, 5, none⟩ = some x.bv ∧ w'.cell? ⟨w.heap.size, 6, none⟩ = some x.cv ∧ Both p d r w.heap.size x 7 w')
    (first | (refine Both.all ?_; exact hB) | (refine Both.all ?_; assumption))
    (first
      | (go_at_call 20; refine HPW.out.mono ?_; rintro e w1 ⟨rfl, hM, hb1⟩; have hB1 := hM.both))
  all_goals
    refine goOn (S := fun V => Mid2 w W.drew V p d r w.heap.size base k x 7 a b ∧ base ≤ V.heap.size) ⟨hM, hb1⟩ ?_
    clear b0 b1 b2 b3 b4 b5 b6 b7 b8 hB hB1 hM hb1 HPW
    rintro V ⟨hM, hb1⟩
    have hB := hM.both
    obtain ⟨b0, b1, b2, b3, b4, b5, b6, b7, b8, _⟩ := hB.all
    go_wp2_with fail
    go_region_held3 (fun w' => w'.cell? ⟨p, 0, none⟩ = some (.pointer (some ⟨d, 0, none⟩)) ∧ w'.cell? ⟨p, 1, none⟩ = some (.pointer (some ⟨r, 0, none⟩)) ∧ w'.cell? ⟨w.heap.size, 0, none⟩ = some (.int .i64 7) ∧ w'.cell? ⟨w.heap.size, 1, none⟩ = some (.int .i64 x.n) ∧ w'.cell? ⟨w.heap.size, 2, none⟩ = some (.int .i64 x.k) ∧ w'.cell? ⟨w.heap.size, 3, none⟩ = some (.string x.name) ∧ w'.cell? ⟨w.heap.size, 4, none⟩ = some (.string x.dest) ∧ w'.cell? ⟨w.heap.size, 5, none⟩ = some x.bv ∧ w'.cell? ⟨w.heap.size, 6, none⟩ = some x.cv ∧ Both p d r w.heap.size x 7 w')
      (first | (refine Both.all ?_; exact hB) | (refine Both.all ?_; assumption))
      (first
        | (go_at_call 21; refine (HD.out _ _ hM.drew hb1).mono ?_; rintro e w2 ⟨rfl, hB2, hD2⟩))
    all_goals
      go_wp2
      go_ret
      exact ⟨rfl, hD2⟩

set_option maxRecDepth 100000 in
set_option maxHeartbeats 2000000 in
theorem does_cap {w : World} {p d r base k : Nat} {a : RA} (h : PW w p d r base k a) (_hk : k ≤ 999) (x : OpV) (hbw : base ≤ w.heap.size) (hact : x.act % 11 = 9) (ha1 : -9223372036854775808 ≤ x.act) (ha2 : x.act ≤ 9223372036854775807) (hn : x.n ≤ 9223372036854775807) :
    Calls Try.prog 7 #[.pointer (some ⟨p, 0, none⟩), .agg #[.int .i64 x.act, .int .i64 x.n, .int .i64 x.k, .string x.name, .string x.dest, x.bv, x.cv]] w fun e w' => e = .returned (.bool true) ∧ Done w w' p d r base k ({ a with cap := max x.n 0 } : RA) := by
  have HP : Hid (∀ W, Both p d r w.heap.size x 9 W → PW W p d r base k a → Below base w W → base ≤ W.heap.size → Calls Try.prog 24 #[.pointer (some ⟨d, 0, none⟩), .int .i64 x.n] W fun e w1 => e = .returned (.tuple #[]) ∧ Mid2 w W w1 p d r w.heap.size base k x 9 a ({ a with cap := max x.n 0 } : RA) ∧ base ≤ w1.heap.size) := fun W hB hW hbel hb => by
    obtain ⟨s, fs, blk, hP⟩ := hW.prog
    exact (P_cap hP x.n).mono (fun e w1 ⟨he, hP1, hK⟩ => ⟨he, mid_of hB hW hbel hb hP1 hK, Nat.le_trans hb hK.size⟩)
  have HD : Hid (∀ W w1, Mid2 w W w1 p d r w.heap.size base k x 9 a ({ a with cap := max x.n 0 } : RA) → base ≤ w1.heap.size → Calls Try.prog 16 #[.pointer (some ⟨r, 0, none⟩), .int .i64 x.n] w1 fun e w2 => e = .returned (.tuple #[]) ∧ Both p d r w.heap.size x 9 w2 ∧ Done w w2 p d r base k ({ a with cap := max x.n 0 } : RA)) := fun W w1 hM hb => by
    exact (refSetCapacity_is hM.doc x.n).mono (fun e w2 ⟨he, hR, hK⟩ => ⟨he, done_of hM (h.inv.capacity hn) hb hR hK⟩)
  have HS : Hid (∀ w1, w1 = _ → _) := boxed h x hbw 9
  have HW : Hid (∀ W, Calls Try.prog 17 #[.int .i64 x.act, .int .i64 11] W fun e w' => e = .returned (.int .i64 9) ∧ w' = W) := fun W => by
    rw [← hact]
    exact within_any x.act 11 W (by decide) (by decide) ha1 ha2
  clear h hact ha1 ha2 hn
  generalize hb : ({ a with cap := max x.n 0 } : RA) = b at *
  clear hb
  go_enter Try.func7, Try.ntmps7
  go_wp2_with (go_at_call 17; refine (HW.out _).mono ?_; rintro e w1 ⟨rfl, rfl⟩)
  refine goOn (S := fun W => Both p d r w.heap.size x 9 W ∧ PW W p d r base k a ∧ Below w.heap.size w W ∧ Below base w W ∧ base ≤ W.heap.size) (HS.out _ rfl) ?_
  rintro W ⟨hB, hW, _, hbl, hbz⟩
  obtain ⟨b0, b1, b2, b3, b4, b5, b6, b7, b8, _⟩ := hB.all
  have HPW : Hid (Calls Try.prog 24 #[.pointer (some ⟨d, 0, none⟩), .int .i64 x.n] W.drew fun e w1 => e = .returned (.tuple #[]) ∧ Mid2 w W.drew w1 p d r w.heap.size base k x 9 a b ∧ base ≤ w1.heap.size) := HP.out W.drew (hB.below (Below.refl _ W).drew) (hW.below (Below.refl _ W).drew) hbl.drew hbz
  clear hW hbl hbz HP HS
  go_wp2_with fail
  go_region_held3 (fun w' => w'.cell? ⟨p, 0, none⟩ = some (.pointer (some ⟨d, 0, none⟩)) ∧ w'.cell? ⟨p, 1, none⟩ = some (.pointer (some ⟨r, 0, none⟩)) ∧ w'.cell? ⟨w.heap.size, 0, none⟩ = some (.int .i64 9) ∧ w'.cell? ⟨w.heap.size, 1, none⟩ = some (.int .i64 x.n) ∧ w'.cell? ⟨w.heap.size, 2, none⟩ = some (.int .i64 x.k) ∧ w'.cell? ⟨w.heap.size, 3, none⟩ = some (.string x.name) ∧ w'.cell? ⟨w.heap.size, 4, none⟩ = some (.string x.dest) ∧ w'.cell? ⟨w.heap.size, 5, none⟩ = some x.bv ∧ w'.cell? ⟨w.heap.size, 6, none⟩ = some x.cv ∧ Both p d r w.heap.size x 9 w')
    (first | (refine Both.all ?_; exact hB) | (refine Both.all ?_; assumption))
    (first
      | (go_at_call 24; refine HPW.out.mono ?_; rintro e w1 ⟨rfl, hM, hb1⟩; have hB1 := hM.both))
  all_goals
    refine goOn (S := fun V => Mid2 w W.drew V p d r w.heap.size base k x 9 a b ∧ base ≤ V.heap.size) ⟨hM, hb1⟩ ?_
    clear b0 b1 b2 b3 b4 b5 b6 b7 b8 hB hB1 hM hb1 HPW
    rintro V ⟨hM, hb1⟩
    have hB := hM.both
    obtain ⟨b0, b1, b2, b3, b4, b5, b6, b7, b8, _⟩ := hB.all
    go_wp2_with fail
    go_region_held3 (fun w' => w'.cell? ⟨p, 0, none⟩ = some (.pointer (some ⟨d, 0, none⟩)) ∧ w'.cell? ⟨p, 1, none⟩ = some (.pointer (some ⟨r, 0, none⟩)) ∧ w'.cell? ⟨w.heap.size, 0, none⟩ = some (.int .i64 9) ∧ w'.cell? ⟨w.heap.size, 1, none⟩ = some (.int .i64 x.n) ∧ w'.cell? ⟨w.heap.size, 2, none⟩ = some (.int .i64 x.k) ∧ w'.cell? ⟨w.heap.size, 3, none⟩ = some (.string x.name) ∧ w'.cell? ⟨w.heap.size, 4, none⟩ = some (.string x.dest) ∧ w'.cell? ⟨w.heap.size, 5, none⟩ = some x.bv ∧ w'.cell? ⟨w.heap.size, 6, none⟩ = some x.cv ∧ Both p d r w.heap.size x 9 w')
      (first | (refine Both.all ?_; exact hB) | (refine Both.all ?_; assumption))
      (first
        | (go_at_call 16; refine (HD.out _ _ hM.drew hb1).mono ?_; rintro e w2 ⟨rfl, hB2, hD2⟩))
    all_goals
      go_wp2
      go_ret
      exact ⟨rfl, hD2⟩

set_option maxRecDepth 100000 in
set_option maxHeartbeats 2000000 in
theorem does_fault {w : World} {p d r base k : Nat} {a : RA} (h : PW w p d r base k a) (hk : k ≤ 999) (x : OpV) (hbw : base ≤ w.heap.size) (hact : x.act % 11 = 6) (ha1 : -9223372036854775808 ≤ x.act) (ha2 : x.act ≤ 9223372036854775807) (hn : x.n ≤ 9223372036854775807) (hkd : (Lit.int .i64 x.k).wf = true) :
    Calls Try.prog 7 #[.pointer (some ⟨p, 0, none⟩), .agg #[.int .i64 x.act, .int .i64 x.n, .int .i64 x.k, .string x.name, .string x.dest, x.bv, x.cv]] w fun e w' => e = .returned (.bool true) ∧ Done w w' p d r base k ({ a with faults := a.faults ++ [(max x.n 0, x.k)] } : RA) := by
  have HP : Hid (∀ W, Both p d r w.heap.size x 6 W → PW W p d r base k a → Below base w W → base ≤ W.heap.size → Calls Try.prog 18 #[.pointer (some ⟨d, 0, none⟩), .int .i64 x.n, .int .i64 x.k] W fun e w1 => e = .returned (.tuple #[]) ∧ Mid2 w W w1 p d r w.heap.size base k x 6 a ({ a with faults := a.faults ++ [(max x.n 0, x.k)] } : RA) ∧ base ≤ w1.heap.size) := fun W hB hW hbel hb => by
    obtain ⟨s, fs, blk, hP⟩ := hW.prog
    exact (P_fault hP hW.inv (by omega) (by omega) x.n x.k hn hkd).mono (fun e w1 ⟨he, hP1, hK⟩ => ⟨he, mid_of hB hW hbel hb hP1 hK, Nat.le_trans hb hK.size⟩)
  have HD : Hid (∀ W w1, Mid2 w W w1 p d r w.heap.size base k x 6 a ({ a with faults := a.faults ++ [(max x.n 0, x.k)] } : RA) → base ≤ w1.heap.size → Calls Try.prog 19 #[.pointer (some ⟨r, 0, none⟩), .int .i64 x.n, .int .i64 x.k] w1 fun e w2 => e = .returned (.tuple #[]) ∧ Both p d r w.heap.size x 6 w2 ∧ Done w w2 p d r base k ({ a with faults := a.faults ++ [(max x.n 0, x.k)] } : RA)) := fun W w1 hM hb => by
    exact (refFault_is hM.doc (by show a.faults.length ≤ _; have := h.inv.nq; omega) x.n x.k).mono (fun e w2 ⟨he, hR, hK⟩ => ⟨he, done_of hM (h.inv.fault hn) hb hR hK⟩)
  have HS : Hid (∀ w1, w1 = _ → _) := boxed h x hbw 6
  have HW : Hid (∀ W, Calls Try.prog 17 #[.int .i64 x.act, .int .i64 11] W fun e w' => e = .returned (.int .i64 6) ∧ w' = W) := fun W => by
    rw [← hact]
    exact within_any x.act 11 W (by decide) (by decide) ha1 ha2
  clear h hact ha1 ha2 hn
  generalize hb : ({ a with faults := a.faults ++ [(max x.n 0, x.k)] } : RA) = b at *
  clear hb
  go_enter Try.func7, Try.ntmps7
  go_wp2_with (go_at_call 17; refine (HW.out _).mono ?_; rintro e w1 ⟨rfl, rfl⟩)
  refine goOn (S := fun W => Both p d r w.heap.size x 6 W ∧ PW W p d r base k a ∧ Below w.heap.size w W ∧ Below base w W ∧ base ≤ W.heap.size) (HS.out _ rfl) ?_
  rintro W ⟨hB, hW, _, hbl, hbz⟩
  obtain ⟨b0, b1, b2, b3, b4, b5, b6, b7, b8, _⟩ := hB.all
  have HPW : Hid (Calls Try.prog 18 #[.pointer (some ⟨d, 0, none⟩), .int .i64 x.n, .int .i64 x.k] W.drew fun e w1 => e = .returned (.tuple #[]) ∧ Mid2 w W.drew w1 p d r w.heap.size base k x 6 a b ∧ base ≤ w1.heap.size) := HP.out W.drew (hB.below (Below.refl _ W).drew) (hW.below (Below.refl _ W).drew) hbl.drew hbz
  clear hW hbl hbz HP HS
  go_wp2_with fail
  go_region_held3 (fun w' => w'.cell? ⟨p, 0, none⟩ = some (.pointer (some ⟨d, 0, none⟩)) ∧ w'.cell? ⟨p, 1, none⟩ = some (.pointer (some ⟨r, 0, none⟩)) ∧ w'.cell? ⟨w.heap.size, 0, none⟩ = some (.int .i64 6) ∧ w'.cell? ⟨w.heap.size, 1, none⟩ = some (.int .i64 x.n) ∧ w'.cell? ⟨w.heap.size, 2, none⟩ = some (.int .i64 x.k) ∧ w'.cell? ⟨w.heap.size, 3, none⟩ = some (.string x.name) ∧ w'.cell? ⟨w.heap.size, 4, none⟩ = some (.string x.dest) ∧ w'.cell? ⟨w.heap.size, 5, none⟩ = some x.bv ∧ w'.cell? ⟨w.heap.size, 6, none⟩ = some x.cv ∧ Both p d r w.heap.size x 6 w')
    (first | (refine Both.all ?_; exact hB) | (refine Both.all ?_; assumption))
    (first
      | (go_at_call 18; refine HPW.out.mono ?_; rintro e w1 ⟨rfl, hM, hb1⟩; have hB1 := hM.both))
  all_goals
    refine goOn (S := fun V => Mid2 w W.drew V p d r w.heap.size base k x 6 a b ∧ base ≤ V.heap.size) ⟨hM, hb1⟩ ?_
    clear b0 b1 b2 b3 b4 b5 b6 b7 b8 hB hB1 hM hb1 HPW
    rintro V ⟨hM, hb1⟩
    have hB := hM.both
    obtain ⟨b0, b1, b2, b3, b4, b5, b6, b7, b8, _⟩ := hB.all
    go_wp2_with fail
    go_region_held3 (fun w' => w'.cell? ⟨p, 0, none⟩ = some (.pointer (some ⟨d, 0, none⟩)) ∧ w'.cell? ⟨p, 1, none⟩ = some (.pointer (some ⟨r, 0, none⟩)) ∧ w'.cell? ⟨w.heap.size, 0, none⟩ = some (.int .i64 6) ∧ w'.cell? ⟨w.heap.size, 1, none⟩ = some (.int .i64 x.n) ∧ w'.cell? ⟨w.heap.size, 2, none⟩ = some (.int .i64 x.k) ∧ w'.cell? ⟨w.heap.size, 3, none⟩ = some (.string x.name) ∧ w'.cell? ⟨w.heap.size, 4, none⟩ = some (.string x.dest) ∧ w'.cell? ⟨w.heap.size, 5, none⟩ = some x.bv ∧ w'.cell? ⟨w.heap.size, 6, none⟩ = some x.cv ∧ Both p d r w.heap.size x 6 w')
      (first | (refine Both.all ?_; exact hB) | (refine Both.all ?_; assumption))
      (first
        | (go_at_call 19; refine (HD.out _ _ hM.drew hb1).mono ?_; rintro e w2 ⟨rfl, hB2, hD2⟩))
    all_goals
      go_wp2
      go_ret
      exact ⟨rfl, hD2⟩

end Go.Proofs.Ytipakfdebccchaa
