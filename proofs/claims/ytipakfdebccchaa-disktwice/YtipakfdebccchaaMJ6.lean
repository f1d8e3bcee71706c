/- Texts that belong together. -/
import Derived.Test.YtipakfdebccchaaMJ5
/- The pair reads. -/
namespace Go.Proofs.Ytipakfdebccchaa
open Go.RowKit Go.Maps Go.Sort

theorem PW.up {w : World} {p d r base k : Nat} {a : RA} (h : PW w p d r base k a) : PW w p d r base (k + 1) a := by
  obtain ⟨s, fs, blk, hP⟩ := h.prog
  exact ⟨h.pair, ⟨s, fs, blk, ⟨hP.disk, hP.files, hP.nodup, hP.len, hP.file, hP.cap, hP.stop, hP.ops, hP.mN, hP.mD, hP.pend, hP.used, hP.flt, hP.more, hP.own, hP.blo, hP.zone, hP.zlo⟩⟩, h.doc, h.inv.mono (Nat.le_succ k) (Nat.le_succ k)⟩

set_option maxRecDepth 100000 in
set_option maxHeartbeats 4000000 in
theorem does_read {w : World} {p d r base k : Nat} {a : RA} (h : PW w p d r base k a) (hk : k ≤ 999) (x : OpV) (hbw : base ≤ w.heap.size) (hact : x.act % 11 = 10) (ha1 : -9223372036854775808 ≤ x.act) (ha2 : x.act ≤ 9223372036854775807) (hs : x.name.size ≤ maxLen) :
    Calls Try.prog 7 #[.pointer (some ⟨p, 0, none⟩), .agg #[.int .i64 x.act, .int .i64 x.n, .int .i64 x.k, .string x.name, .string x.dest, x.bv, x.cv]] w fun e w' => e = .returned (.bool true) ∧ Done w w' p d r base k a := by
  have HS : Hid (∀ w1, w1 = w.alloc (.cells #[.int .i64 10, .int .i64 x.n, .int .i64 x.k, .string x.name, .string x.dest, x.bv, x.cv] 34) → _) := boxed h x hbw 10
  have HW : Hid (∀ W, Calls Try.prog 17 #[.int .i64 x.act, .int .i64 11] W fun e w' => e = .returned (.int .i64 10) ∧ w' = W) := fun W => by
    rw [← hact]
    exact within_any x.act 11 W (by decide) (by decide) ha1 ha2
  have HE : Hid (∀ W W', PW W p d r base k a → Below base w W → base ≤ W.heap.size → Below W.heap.size W W' → Done w W' p d r base k a) := fun W W' h1 h2 h3 h4 => ⟨a.zone, (h1.below h4).up, h2.trans (h4.mono h3)⟩
  clear h hact ha1 ha2
  go_enter Try.func7, Try.ntmps7
  go_upto_region 19 with (go_at_call 17; refine (HW.out _).mono ?_; rintro e w1 ⟨rfl, rfl⟩)
  refine goOn (S := fun W => Both p d r w.heap.size x 10 W ∧ PW W p d r base k a ∧ Below w.heap.size w W ∧ Below base w W ∧ base ≤ W.heap.size) (HS.out _ rfl) ?_
  rintro W0 ⟨hB, hW, _, hbl, hbz⟩
  have HEND : Hid (∀ W', Below W0.heap.size W0 W' → Done w W' p d r base k a) := fun W' hb => HE.out W0 W' hW hbl hbz hb
  have HRD : Hid (∀ W, Below W0.heap.size W0 W → Calls Try.prog 13 #[.pointer (some ⟨d, 0, none⟩), .string x.name] W fun e w' => ∃ v, e = .returned (.tuple #[v, .int .i64 (a.readR x.name).1]) ∧ w'.ownsRow W.heap.size 5 1 v (a.readR x.name).2.length (byteVals (a.readR x.name).2) ∧ Below W.heap.size W w') := fun W hb => T_read (hW.below hb) (by omega) x.name hs
  have HRR : Hid (∀ W, Below W0.heap.size W0 W → Calls Try.prog 25 #[.pointer (some ⟨r, 0, none⟩), .string x.name] W fun e w' => ∃ v, e = .returned (.tuple #[v, .int .i64 (a.readR x.name).1]) ∧ w'.ownsRow W.heap.size 5 1 v (a.readR x.name).2.length (byteVals (a.readR x.name).2) ∧ Below W.heap.size W w') := fun W hb => L_read (hW.below hb) (by omega) x.name hs
  have HLI : Hid (∀ W, Below W0.heap.size W0 W → Calls Try.prog 12 #[.pointer (some ⟨d, 0, none⟩), .string x.name] W fun e w' => ∃ v, e = .returned v ∧ w'.ownsRow W.heap.size 9 1 v (namesL a.dir x.name.data.toList).length ((namesL a.dir x.name.data.toList).map encStr) ∧ Below W.heap.size W w') := fun W hb => T_list (hW.below hb) (by omega) x.name
  have HLR : Hid (∀ W, Below W0.heap.size W0 W → Calls Try.prog 26 #[.pointer (some ⟨r, 0, none⟩), .string x.name] W fun e w' => ∃ v, e = .returned v ∧ w'.ownsRow W.heap.size 9 1 v (namesL a.dir x.name.data.toList).length ((namesL a.dir x.name.data.toList).map encStr) ∧ Below W.heap.size W w') := fun W hb => L_list (hW.below hb) (by omega) x.name hs
  have HSM : Hid (∀ W, Below W0.heap.size W0 W → Calls Try.prog 9 #[.pointer (some ⟨p, 0, none⟩)] W fun e w' => e = .returned (.bool true) ∧ Below W.heap.size W w') := fun W hb => same_any (hW.below hb) (by omega)
  have HTR : Hid (∀ W W', Below W0.heap.size W0 W → Below W.heap.size W W' → Below W0.heap.size W0 W') := fun W W' h1 h2 => below_to h1 h2 h1.size
  have HDN : Hid (∀ W q, Below W0.heap.size W0 W → Below W0.heap.size W0 (W.drewN q)) := fun W q h1 => by
    have : ∀ q, Below W0.heap.size W0 (W.drewN q) := fun q => by
      induction q with
      | zero => exact h1
      | succ q ih => exact ih.drew
    exact this q
  have HCN : Hid (∀ W, Below W0.heap.size W0 W → W.cell? ⟨p, 0, none⟩ = some (.pointer (some ⟨d, 0, none⟩)) ∧ W.cell? ⟨p, 1, none⟩ = some (.pointer (some ⟨r, 0, none⟩)) ∧ W.cell? ⟨w.heap.size, 3, none⟩ = some (.string x.name) ∧ Below W0.heap.size W0 W) := fun W hb => by
    obtain ⟨h1, h2, _, _, _, h3, _⟩ := (hB.below hb).all
    exact ⟨h1, h2, h3, hb⟩
  clear hB hW hbl hbz HE HS
  generalize (a.readR x.name).1 = er at *
  generalize (a.readR x.name).2 = bs at *
  generalize namesL a.dir x.name.data.toList = nms at *
  obtain ⟨f0, f1, f2, hbr'⟩ := HCN.out W0 (Below.refl _ _)
  have HB : Hid (Below W0.heap.size W0 W0.drew) := (Below.refl _ W0).drew
  go_region_held3 (fun w' => w'.cell? ⟨p, 0, none⟩ = some (.pointer (some ⟨d, 0, none⟩)) ∧ w'.cell? ⟨p, 1, none⟩ = some (.pointer (some ⟨r, 0, none⟩)) ∧ w'.cell? ⟨w.heap.size, 3, none⟩ = some (.string x.name) ∧ Below W0.heap.size W0 w')
    (first | (refine HCN.out _ ?_; exact hbr') | (refine HCN.out _ ?_; assumption))
    (first | (go_at_call 13; refine (HRD.out _ HB.out).mono ?_; rintro e w11 ⟨v1, rfl, hr11, hb11⟩; have hw11 := HTR.out _ _ HB.out hb11; obtain ⟨v1a, v1c, rfl⟩ := slice_of_row hr11))
  all_goals
    have HB11 : Hid (Below W0.heap.size W0 w11.drew) := hw11.drew
    have HV1 : Hid (∀ W, Below w11.heap.size w11 W → BytesAt W (.slice v1a bs.length v1c) bs) := fun W hb => BytesAt.of_row (row_still hr11 hb)
    have HD11 : Hid (Below w11.heap.size w11 w11.drew) := (Below.refl _ w11).drew
    obtain ⟨g0, g1, g2, hw11'⟩ := HCN.out w11 hw11
    clear f0 f1 f2 hbr' HB hr11 hb11 HRD
    go_wp2_with fail
    go_region_held3 (fun w' => w'.cell? ⟨p, 0, none⟩ = some (.pointer (some ⟨d, 0, none⟩)) ∧ w'.cell? ⟨p, 1, none⟩ = some (.pointer (some ⟨r, 0, none⟩)) ∧ w'.cell? ⟨w.heap.size, 3, none⟩ = some (.string x.name) ∧ Below W0.heap.size W0 w')
      (first | (refine HCN.out _ ?_; exact hw11') | (refine HCN.out _ ?_; assumption))
      (first | (go_at_call 25; refine (HRR.out _ HB11.out).mono ?_; rintro e w12 ⟨v2, rfl, hr12, hb12⟩; have hw12 := HTR.out _ _ HB11.out hb12; obtain ⟨v2a, v2c, rfl⟩ := slice_of_row hr12))
    all_goals
      have HV12 : Hid (∀ W, Below w12.heap.size w12 W → W.cell? ⟨p, 0, none⟩ = some (.pointer (some ⟨d, 0, none⟩)) ∧ W.cell? ⟨p, 1, none⟩ = some (.pointer (some ⟨r, 0, none⟩)) ∧ W.cell? ⟨w.heap.size, 3, none⟩ = some (.string x.name) ∧ (convert 31 9 (.slice v1a bs.length v1c)).run Try.prog W = .ok (.string ⟨bs.toArray⟩) W ∧ (convert 31 9 (.slice v2a bs.length v2c)).run Try.prog W = .ok (.string ⟨bs.toArray⟩) W ∧ Below w12.heap.size w12 W) := fun W hb => by
        have hb12' : Below w11.heap.size w11 w12 := below_to HD11.out hb12 HD11.out.size
        obtain ⟨q0, q1, q2, _⟩ := HCN.out W (HTR.out _ _ hw12 hb)
        exact ⟨q0, q1, q2, BytesAt.str (HV1.out W (below_to hb12' hb hb12'.size)), BytesAt.str (BytesAt.of_row (row_still hr12 hb)), hb⟩
      have HTO : Hid (∀ W, Below w12.heap.size w12 W → Below W0.heap.size W0 W) := fun W hb => HTR.out _ _ hw12 hb
      have HTW : Hid (∀ W W', Below w12.heap.size w12 W → Below W.heap.size W W' → Below w12.heap.size w12 W') := fun W W' h1 h2 => below_to h1 h2 h1.size
      have HDW : Hid (∀ W q, Below w12.heap.size w12 W → Below w12.heap.size w12 (W.drewN q)) := fun W q h1 => by
        have : ∀ q, Below w12.heap.size w12 (W.drewN q) := fun q => by
          induction q with
          | zero => exact h1
          | succ q ih => exact ih.drew
        exact this q
      generalize (ByteArray.mk bs.toArray) = tx at *
      have hwd : Below w12.heap.size w12 w12.drew := (Below.refl _ w12).drew
      obtain ⟨k0, k1, k2, k3, k4, k5⟩ := HV12.out w12 (Below.refl _ _)
      obtain ⟨l0, l1, l2, l3, l4, l5⟩ := HV12.out w12.drew hwd
      clear g0 g1 g2 hw11' HB11 hb12 hr12 HRR HV1 HDN
      go_wp2_with fail
      go_region_held3 (fun w' => w'.cell? ⟨p, 0, none⟩ = some (.pointer (some ⟨d, 0, none⟩)) ∧ w'.cell? ⟨p, 1, none⟩ = some (.pointer (some ⟨r, 0, none⟩)) ∧ w'.cell? ⟨w.heap.size, 3, none⟩ = some (.string x.name) ∧ (convert 31 9 (.slice v1a bs.length v1c)).run Try.prog w' = .ok (.string tx) w' ∧ (convert 31 9 (.slice v2a bs.length v2c)).run Try.prog w' = .ok (.string tx) w' ∧ Below w12.heap.size w12 w')
        (first | (refine HV12.out _ ?_; exact hwd) | (refine HV12.out _ ?_; assumption))
        (first
          | (go_at_call 12; refine (HLI.out _ (HTO.out _ hwd)).mono ?_; rintro e w4 ⟨v4, rfl, hr4, hb4⟩; have hw4 := HTW.out _ _ hwd hb4; obtain ⟨v4a, v4c, rfl⟩ := slice_of_row hr4; clear HLI)
          | (go_at_call 26; refine (HLR.out _ (HTO.out _ hw4)).mono ?_; rintro e w5 ⟨v5, rfl, hr5, hb5⟩; have hw5 := HTW.out _ _ hw4 hb5; have hS1 := StrsAt.of_row (row_still hr4 hb5); have hS2 := StrsAt.of_row hr5; obtain ⟨v5a, v5c, rfl⟩ := slice_of_row hr5; clear HLR)
          | (go_at_call 14; refine (texts_any _ _ _ _ hS1 hS2).mono ?_; rintro e w6 ⟨rfl, q6, hq6⟩; have hw6 := HDW.out _ q6 hw5; rw [← hq6] at hw6; clear hS1 hS2 hq6)
          | (go_at_call 9; refine (HSM.out _ (HTO.out _ hw6)).mono ?_; rintro e w7 ⟨rfl, hb7⟩; have hw7 := HTW.out _ _ hw6 hb7; clear HSM))
      all_goals
        go_wp2
        go_ret
        exact ⟨rfl, HEND.out _ (HTO.out _ hw7)⟩

end Go.Proofs.Ytipakfdebccchaa

/- Whatever the pair does. -/
namespace Go.Proofs.Ytipakfdebccchaa
open Go.RowKit Go.Maps Go.Sort

/-- An operation that may be done: what it names lies below. -/
structure OkOp (w : World) (base : Nat) (x : OpV) : Prop where
  a1 : -9223372036854775808 ≤ x.act
  a2 : x.act ≤ 9223372036854775807
  n2 : x.n ≤ 9223372036854775807
  wk : (Lit.int .i64 x.k).wf = true
  wname : x.name.size ≤ maxLen
  wto : x.dest.size ≤ maxLen
  bytes : AB w base x.bv x.bs
  ints : IntsAt w x.cv x.cs
  lowc : ∀ b, x.cv.ownBlock = some b → x.cs ≠ [] → b < base
  few : x.cs.length ≤ 17592186044416
theorem OkOp.below {w w' : World} {base : Nat} {x : OpV} (h : OkOp w base x) (hb : Below base w w') : OkOp w' base x := by
  have k' : Kept (fun i => base ≤ i) w w' := ⟨hb.os, hb.tape, hb.output, hb.size, fun i _ hi => hb.block i (by omega)⟩
  exact ⟨h.a1, h.a2, h.n2, h.wk, h.wname, h.wto, h.bytes.below hb, h.ints.kept k' (fun b hb1 hne e => by have := h.lowc b hb1 hne; omega), h.lowc, h.few⟩

theorem does_append {w : World} {p d r base k : Nat} {a : RA} (h : PW w p d r base k a) (hk : k ≤ 999) (x : OpV) (hbw : base ≤ w.heap.size) (hx : OkOp w base x) (hact : x.act % 11 = 1) :
    Calls Try.prog 7 #[.pointer (some ⟨p, 0, none⟩), .agg #[.int .i64 x.act, .int .i64 x.n, .int .i64 x.k, .string x.name, .string x.dest, x.bv, x.cv]] w fun e w' => e = .returned (.bool true) ∧ ∃ b, Done w w' p d r base k b := by
  obtain ⟨ba, bc, e, hc1, hc2⟩ := hx.bytes.1.shape
  by_cases hl : x.bs.length ≤ 200
  · refine (does_op1 h x hbw hact hx.a1 hx.a2 (a.doAppend x.name x.bs).2 (fun W hW hb hbW => ?_)).mono (fun _ _ ⟨he, hD⟩ => ⟨he, _, hD⟩)
    exact op_append_short hW hk x hbW hx.wname ba bc x.bs (by rw [← e]; exact hx.bytes.below hb) hl e
  · have hbt : (x.bs.take 200).length = 200 := by rw [List.length_take]; omega
    refine (does_op1 h x hbw hact hx.a1 hx.a2 (a.doAppend x.name (x.bs.take 200)).2 (fun W hW hb hbW => ?_)).mono (fun _ _ ⟨he, hD⟩ => ⟨he, _, hD⟩)
    refine op_append_long hW hk x hbW hx.wname ba bc (x.bs.take 200) ?_ x.bs.length hbt (by omega) (by omega) e
    rw [hbt]
    have h1 := hx.bytes.below hb
    have h2 := h1.1.cut (k := 200) (by omega)
    rw [e] at h2
    refine ⟨h2, fun b hb1 hne => ?_⟩
    have h3 := h1.2 b
    rw [e] at h3
    cases ba with
    | none => cases hb1
    | some ad => exact h3 hb1 (fun e0 => by rw [e0] at hl; simp at hl)

theorem does_any {w : World} {p d r base k : Nat} {a : RA} (h : PW w p d r base k a) (hk : k ≤ 999) (x : OpV) (hbw : base ≤ w.heap.size) (hx : OkOp w base x) :
    Calls Try.prog 7 #[.pointer (some ⟨p, 0, none⟩), .agg #[.int .i64 x.act, .int .i64 x.n, .int .i64 x.k, .string x.name, .string x.dest, x.bv, x.cv]] w fun e w' => e = .returned (.bool true) ∧ ∃ b, Done w w' p d r base k b := by
  have tw : ∀ {b : RA} (e : Ending) (w' : World), (e = .returned (.bool true) ∧ Done w w' p d r base k b) → e = .returned (.bool true) ∧ ∃ b, Done w w' p d r base k b := fun _ _ ⟨he, hD⟩ => ⟨he, _, hD⟩
  have hr : x.act % 11 = 0 ∨ x.act % 11 = 1 ∨ x.act % 11 = 2 ∨ x.act % 11 = 3 ∨ x.act % 11 = 4 ∨ x.act % 11 = 5 ∨ x.act % 11 = 6 ∨ x.act % 11 = 7 ∨ x.act % 11 = 8 ∨ x.act % 11 = 9 ∨ x.act % 11 = 10 := by omega
  rcases hr with e | e | e | e | e | e | e | e | e | e | e
  · exact (does_op0 h x hbw e hx.a1 hx.a2 _ (fun W hW _ hbW => op_create hW hk x hbW hx.wname)).mono tw
  · exact does_append h hk x hbw hx e
  · exact (does_op2 h x hbw e hx.a1 hx.a2 _ (fun W hW _ hbW => op_sync hW hk x hbW hx.wname)).mono tw
  · exact (does_op3 h x hbw e hx.a1 hx.a2 _ (fun W hW _ hbW => op_rename hW hk x hbW hx.wname hx.wto)).mono tw
  · exact (does_op4 h x hbw e hx.a1 hx.a2 _ (fun W hW _ hbW => op_remove hW hk x hbW hx.wname)).mono tw
  · exact (does_op5 h x hbw e hx.a1 hx.a2 _ (fun W hW _ hbW => op_syncDir hW hk x hbW)).mono tw
  · exact (does_fault h hk x hbw e hx.a1 hx.a2 hx.n2 hx.wk).mono tw
  · exact (does_stop h hk x hbw e hx.a1 hx.a2 hx.n2).mono tw
  · exact (does_crash h hk x hbw e hx.a1 hx.a2 hx.ints hx.lowc hx.few).mono tw
  · exact (does_cap h hk x hbw e hx.a1 hx.a2 hx.n2).mono tw
  · exact (does_read h hk x hbw e hx.a1 hx.a2 hx.wname).mono tw

end Go.Proofs.Ytipakfdebccchaa
