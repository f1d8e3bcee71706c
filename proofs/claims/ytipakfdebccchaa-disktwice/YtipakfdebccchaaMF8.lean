/- pair.same: all that is told is what it should be. -/
import Derived.Test.YtipakfdebccchaaMF7
namespace Go.Proofs.Ytipakfdebccchaa
open Go.RowKit Go.Maps Go.Sort

set_option maxRecDepth 100000 in
set_option maxHeartbeats 4000000 in
theorem same_any {w : World} {p d r base k : Nat} {a : RA} (h : PW w p d r base k a) (hk : k ≤ 1000) : Calls Try.prog 9 #[.pointer (some ⟨p, 0, none⟩)] w fun e w' => e = .returned (.bool true) ∧ Below w.heap.size w w' := by
  have HP : Hid (∀ W, Below w.heap.size w W → PW W p d r base k a) := fun W hb => h.below hb
  have HA : Hid (∀ W, Below w.heap.size w W → W.cell? ⟨p, 0, none⟩ = some (.pointer (some ⟨d, 0, none⟩)) ∧ W.cell? ⟨p, 1, none⟩ = some (.pointer (some ⟨r, 0, none⟩)) ∧ W.cell? ⟨r, 7, none⟩ = some (.int .i64 a.cnt) ∧ Below w.heap.size w W) := fun W hb => h.all hb
  have HLI : Hid (∀ W, Below w.heap.size w W → Calls Try.prog 12 #[.pointer (some ⟨d, 0, none⟩), .string ⟨#[]⟩] W fun e w' => ∃ v, e = .returned v ∧ w'.ownsRow W.heap.size 9 1 v (namesL a.dir []).length ((namesL a.dir []).map encStr) ∧ Below W.heap.size W w') := fun W hb => T_list (h.below hb) hk ⟨#[]⟩
  have HLR : Hid (∀ W, Below w.heap.size w W → Calls Try.prog 26 #[.pointer (some ⟨r, 0, none⟩), .string ⟨#[]⟩] W fun e w' => ∃ v, e = .returned v ∧ w'.ownsRow W.heap.size 9 1 v (namesL a.dir []).length ((namesL a.dir []).map encStr) ∧ Below W.heap.size W w') := fun W hb => L_list (h.below hb) hk ⟨#[]⟩ (Nat.zero_le _)
  have hnl : (namesL a.dir []).length ≤ 1000 := by rw [(namesL_perm _).length_eq, List.length_map]; exact (h.lens hk).1
  obtain ⟨c0, c1, c2, _⟩ := HA.out w (Below.refl _ _)
  have hb0 : Below w.heap.size w w := Below.refl _ _
  go_enter Try.func9, Try.ntmps9
  go_upto_region 2 with (go_at_call 12; refine (HLI.out _ hb0).mono ?_; rintro e w1 ⟨v1, rfl, hr1, hb1⟩)
  obtain ⟨va, vc, rfl⟩ := slice_of_row hr1
  have hw1 : Below w.heap.size w w1 := hb1
  have HD1 : Hid (∀ W, Below w1.heap.size w1 W → Below w.heap.size w W ∧ StrsAt W (.slice va (namesL a.dir []).length vc) (namesL a.dir [])) := fun W hb => ⟨below_to hb1 hb hb1.size, StrsAt.of_row (row_still hr1 hb)⟩
  have hwd : Below w1.heap.size w1 w1.drew := (Below.refl _ w1).drew
  have HTR : Hid (∀ W W', Below w1.heap.size w1 W → Below W.heap.size W W' → Below w1.heap.size w1 W') := fun W W' h1 h2 => below_to h1 h2 h1.size
  have HDN : Hid (∀ W q, Below w1.heap.size w1 W → Below w1.heap.size w1 (W.drewN q)) := fun W q h1 => by
    have : ∀ q, Below w1.heap.size w1 (W.drewN q) := fun q => by
      induction q with
      | zero => exact h1
      | succ q ih => exact ih.drew
    exact this q
  have HDU : Hid (∀ W, Below w1.heap.size w1 W → Calls Try.prog 15 #[.pointer (some ⟨d, 0, none⟩)] W fun e w' => ∃ v, e = .returned v ∧ w'.ownsRow W.heap.size 9 1 v (namesL a.kept []).length ((namesL a.kept []).map encStr) ∧ Below W.heap.size W w') := fun W hb => T_durable (HP.out W (HD1.out W hb).1) hk
  have HRU : Hid (∀ W, Below w1.heap.size w1 W → Calls Try.prog 28 #[.pointer (some ⟨r, 0, none⟩)] W fun e w' => ∃ v, e = .returned v ∧ w'.ownsRow W.heap.size 9 1 v (namesL a.kept []).length ((namesL a.kept []).map encStr) ∧ Below W.heap.size W w') := fun W hb => L_durable (HP.out W (HD1.out W hb).1) hk
  have HUS : Hid (∀ W, Below w1.heap.size w1 W → Calls Try.prog 29 #[.pointer (some ⟨d, 0, none⟩)] W fun e w' => e = .returned (.int .i64 a.used) ∧ w' = W) := fun W hb => T_used (HP.out W (HD1.out W hb).1)
  have HOP : Hid (∀ W, Below w1.heap.size w1 W → Calls Try.prog 8 #[.pointer (some ⟨d, 0, none⟩)] W fun e w' => e = .returned (.int .i64 a.cnt) ∧ w' = W) := fun W hb => T_ops (HP.out W (HD1.out W hb).1)
  have HRS : Hid (∀ W, Below w1.heap.size w1 W → Calls Try.prog 30 #[.pointer (some ⟨r, 0, none⟩)] W fun e w' => e = .returned (.int .i64 a.used) ∧ ∃ q, w' = W.drewN q) := fun W hb => L_used (HP.out W (HD1.out W hb).1) hk
  have HLR1 : Hid (∀ W, Below w1.heap.size w1 W → Calls Try.prog 26 #[.pointer (some ⟨r, 0, none⟩), .string ⟨#[]⟩] W fun e w' => ∃ v, e = .returned v ∧ w'.ownsRow W.heap.size 9 1 v (namesL a.dir []).length ((namesL a.dir []).map encStr) ∧ Below W.heap.size W w') := fun W hb => HLR.out W (HD1.out W hb).1
  have HA1 : Hid (∀ W, Below w1.heap.size w1 W → W.cell? ⟨p, 0, none⟩ = some (.pointer (some ⟨d, 0, none⟩)) ∧ W.cell? ⟨p, 1, none⟩ = some (.pointer (some ⟨r, 0, none⟩)) ∧ W.cell? ⟨r, 7, none⟩ = some (.int .i64 a.cnt) ∧ Below w1.heap.size w1 W) := fun W hb => by
    obtain ⟨h1, h2, h3, _⟩ := HA.out W (HD1.out W hb).1
    exact ⟨h1, h2, h3, hb⟩
  obtain ⟨e0, e1, e2, hb1'⟩ := HA1.out w1 (Below.refl _ _)
  clear c0 c1 c2 hb1 h
  have HR1 : Hid (w1.ownsRow w.heap.size 9 1 (.slice va (namesL a.dir []).length vc) (namesL a.dir []).length ((namesL a.dir []).map encStr)) := hr1
  clear hr1
  go_cut [66] from 17 to 66 (fun b wx => b = .bool false ∧ Below w1.heap.size w1 wx)
  case first =>
    go_region_held3 (fun w' => w'.cell? ⟨p, 0, none⟩ = some (.pointer (some ⟨d, 0, none⟩)) ∧ w'.cell? ⟨p, 1, none⟩ = some (.pointer (some ⟨r, 0, none⟩)) ∧ w'.cell? ⟨r, 7, none⟩ = some (.int .i64 a.cnt) ∧ Below w1.heap.size w1 w')
      (first | (refine HA1.out _ ?_; exact hb1') | (refine HA1.out _ ?_; assumption))
      (first
        | (go_at_call 26; refine (HLR1.out _ hwd).mono ?_; rintro e w2 ⟨v2, rfl, hr2, hb2⟩; have hw2 := HTR.out _ _ hwd hb2; have hS1 := (HD1.out _ hw2).2; have hS2 := StrsAt.of_row hr2; obtain ⟨v2a, v2c, rfl⟩ := slice_of_row hr2; clear HLR1)
        | (go_at_call 14; refine (texts_any _ _ _ _ hS1 hS2).mono ?_; rintro e w3 ⟨rfl, q3, hq3⟩; have hw3 := HDN.out _ q3 hw2; rw [← hq3] at hw3; clear hS1 hS2 hq3)
        | (go_at_call 15; refine (HDU.out _ hw3).mono ?_; rintro e w4 ⟨v4, rfl, hr4, hb4⟩; have hw4 := HTR.out _ _ hw3 hb4; obtain ⟨v4a, v4c, rfl⟩ := slice_of_row hr4; clear HDU)
        | (go_at_call 28; refine (HRU.out _ hw4).mono ?_; rintro e w5 ⟨v5, rfl, hr5, hb5⟩; have hw2 := HTR.out _ _ hw4 hb5; have hS1 := StrsAt.of_row (row_still hr4 hb5); have hS2 := StrsAt.of_row hr5; obtain ⟨v5a, v5c, rfl⟩ := slice_of_row hr5; clear HRU)
        | (go_at_call 29; refine (HUS.out _ hw3).mono ?_; rintro e w6 ⟨rfl, rfl⟩; clear HUS)
        | (go_at_call 30; refine (HRS.out _ hw3).mono ?_; rintro e w7 ⟨rfl, q7, hq7⟩; have hw7 := HDN.out _ q7 hw3; rw [← hq7] at hw7; clear HRS hq7)
        | (go_at_call 8; refine (HOP.out _ hw7).mono ?_; rintro e w8 ⟨rfl, rfl⟩; clear HOP))
    all_goals
      go_wp2_with fail
      go_meet
      exact ⟨rfl, hw7⟩
  case rest =>
    obtain ⟨rfl, hbx⟩ := hcut
    clear e0 e1 e2 hb1' hwd HTR HDN HDU HRU HUS HOP HRS HLR1 HA1
    have hbw := (HD1.out _ hbx).1
    have HSP : Hid (∀ w9, Kept (fun j => (Value.slice va (namesL a.dir []).length vc).ownBlock = some j) wc w9 → Below w.heap.size w w9) := fun w9 hk9 => hbw.trans (hk9.toBelow hbw.size (fun i hi => (HR1.out.lt i hi).1))
    have hrx := row_still HR1.out hbx
    go_upto_region 6 with (first
      | (go_at_call 31; refine (spoilT_any w.heap.size _ _ _ _ hrx (by omega) hbw.size).mono ?_; rintro e w9 ⟨rfl, hk9⟩; have hb9 := HSP.out _ hk9; obtain ⟨f0, f1, f2, _⟩ := HA.out _ hb9; clear HSP hk9 hrx)
      | (go_at_call 26; refine (HLR.out _ hb9).mono ?_; rintro e w10 ⟨nv, rfl, hrn, hb10⟩))
    obtain ⟨na, nc, rfl⟩ := slice_of_row hrn
    have HN0 : Hid (w10.ownsRow w9.heap.size 9 1 (.slice na (namesL a.dir []).length nc) (namesL a.dir []).length ((namesL a.dir []).map encStr)) := hrn
    have HB9 : Hid (Below w.heap.size w w10) := below_to hb9 hb10 hb9.size
    have HSZ : Hid (∀ i (hi : i < (namesL a.dir []).length), ∃ xb : ByteArray, encStr (namesL a.dir [])[i] = .string xb ∧ xb.size ≤ maxLen) := fun i hi => by
      have hm : (namesL a.dir [])[i] ∈ a.dir.map fun e => e.1.data.toList := (namesL_perm a.dir).mem_iff.1 (List.getElem_mem hi)
      rw [List.mem_map] at hm
      obtain ⟨e, he, hee⟩ := hm
      have h1 := (HP.out w hb0).names.1 e he
      refine ⟨⟨(namesL a.dir [])[i].toArray⟩, rfl, ?_⟩
      have h2 : (namesL a.dir [])[i].length = e.1.size := by rw [← hee]; simp
      have h3 : (ByteArray.mk (namesL a.dir [])[i].toArray).size = (namesL a.dir [])[i].length := by simp [ByteArray.size]
      unfold maxLen
      omega
    have HTO : Hid (∀ W, Below w10.heap.size w10 W → Below w.heap.size w W) := fun W hb => below_to HB9.out hb HB9.out.size
    have HTW : Hid (∀ W W', Below w10.heap.size w10 W → Below W.heap.size W W' → Below w10.heap.size w10 W') := fun W W' h1 h2 => below_to h1 h2 h1.size
    have HLT : Hid (∀ W, Below w10.heap.size w10 W → StrsAt W (.slice na (namesL a.dir []).length nc) (namesL a.dir [])) := fun W hb => StrsAt.of_row (row_still HN0.out hb)
    have HRD : Hid (∀ W x, Below w10.heap.size w10 W → x.size ≤ maxLen → Calls Try.prog 13 #[.pointer (some ⟨d, 0, none⟩), .string x] W fun e w' => ∃ v, e = .returned (.tuple #[v, .int .i64 (a.readR x).1]) ∧ w'.ownsRow W.heap.size 5 1 v (a.readR x).2.length (byteVals (a.readR x).2) ∧ Below W.heap.size W w') := fun W x hb hx => T_read (HP.out W (HTO.out W hb)) hk x hx
    have HRR : Hid (∀ W x, Below w10.heap.size w10 W → x.size ≤ maxLen → Calls Try.prog 25 #[.pointer (some ⟨r, 0, none⟩), .string x] W fun e w' => ∃ v, e = .returned (.tuple #[v, .int .i64 (a.readR x).1]) ∧ w'.ownsRow W.heap.size 5 1 v (a.readR x).2.length (byteVals (a.readR x).2) ∧ Below W.heap.size W w') := fun W x hb hx => L_read (HP.out W (HTO.out W hb)) hk x hx
    have HLEN : Hid (∀ x, (a.readR x).2.length ≤ 200000) := fun x => by have := (HP.out w hb0).readLen x; omega
    have HA10 : Hid (∀ W, Below w10.heap.size w10 W → W.cell? ⟨p, 0, none⟩ = some (.pointer (some ⟨d, 0, none⟩)) ∧ W.cell? ⟨p, 1, none⟩ = some (.pointer (some ⟨r, 0, none⟩))) := fun W hb => by
      obtain ⟨h1, h2, _, _⟩ := HA.out W (HTO.out W hb)
      exact ⟨h1, h2⟩
    have HLI10 : Hid (∀ W, Below w10.heap.size w10 W → Calls Try.prog 12 #[.pointer (some ⟨d, 0, none⟩), .string ⟨#[]⟩] W fun e w' => ∃ v, e = .returned v ∧ w'.ownsRow W.heap.size 9 1 v (namesL a.dir []).length ((namesL a.dir []).map encStr) ∧ Below W.heap.size W w') := fun W hb => HLI.out W (HTO.out W hb)
    clear f0 f1 f2 hrn hb10 hb9 HR1 HD1 hbx hbw hw1 HLI HLR HA HP hb0
    generalize namesL a.dir [] = nms at *
    go_wp2_with fail
    go_loopw [5] (fun i wr => ∃ j : Nat, j ≤ nms.length ∧ i = .int .i64 j ∧ Hid (Below w10.heap.size w10 wr)) (fun i _ => nms.length - (intOf i).toNat)
    case atStart => exact ⟨0, Nat.zero_le _, rfl, Below.refl _ _⟩
    case round =>
      obtain ⟨j, hj, rfl, hbr⟩ := hrel
      by_cases hlt : j < nms.length
      · obtain ⟨xb, hx1, hx2⟩ := HSZ.out j hlt
        obtain ⟨gn, gnc, hgn⟩ := row_some HN0.out (by omega)
        have e9 : na = some ⟨gn, 0, none⟩ := by simp at hgn; exact hgn.1
        subst e9
        have HCN : Hid (∀ W, Below w10.heap.size w10 W → W.cell? ⟨p, 0, none⟩ = some (.pointer (some ⟨d, 0, none⟩)) ∧ W.cell? ⟨p, 1, none⟩ = some (.pointer (some ⟨r, 0, none⟩)) ∧ W.cell? ⟨gn, j, none⟩ = some (.string xb) ∧ Below w10.heap.size w10 W) := fun W hb => by
          obtain ⟨h1, h2⟩ := HA10.out W hb
          have h3 := (row_still HN0.out hb).cells (g := gn) rfl j (encStr nms[j]) (by simp [hlt])
          rw [Addr.add_lit, Nat.zero_add, hx1] at h3
          exact ⟨h1, h2, h3, hb⟩
        have HRD1 : Hid (∀ W, Below w10.heap.size w10 W → Calls Try.prog 13 #[.pointer (some ⟨d, 0, none⟩), .string xb] W fun e w' => ∃ v, e = .returned (.tuple #[v, .int .i64 (a.readR xb).1]) ∧ w'.ownsRow W.heap.size 5 1 v (a.readR xb).2.length (byteVals (a.readR xb).2) ∧ Below W.heap.size W w') := fun W hb => HRD.out W xb hb hx2
        have HRR1 : Hid (∀ W, Below w10.heap.size w10 W → Calls Try.prog 25 #[.pointer (some ⟨r, 0, none⟩), .string xb] W fun e w' => ∃ v, e = .returned (.tuple #[v, .int .i64 (a.readR xb).1]) ∧ w'.ownsRow W.heap.size 5 1 v (a.readR xb).2.length (byteVals (a.readR xb).2) ∧ Below W.heap.size W w') := fun W hb => HRR.out W xb hb hx2
        have hbl := HLEN.out xb
        have hjn : (j : Int) < (nms.length : Int) := by omega
        have HB : Hid (Below w10.heap.size w10 wr.drew) := hbr.out.drew
        clear hgn hx1 hx2 HSZ HRD HRR HLEN HA10 HLT HLI10
        generalize (a.readR xb).1 = er at *
        generalize (a.readR xb).2 = bs at *
        obtain ⟨f0, f1, f2, hbr'⟩ := HCN.out wr hbr.out
        go_wp2_with fail
        go_region_held3 (fun w' => w'.cell? ⟨p, 0, none⟩ = some (.pointer (some ⟨d, 0, none⟩)) ∧ w'.cell? ⟨p, 1, none⟩ = some (.pointer (some ⟨r, 0, none⟩)) ∧ w'.cell? ⟨gn, j, none⟩ = some (.string xb) ∧ Below w10.heap.size w10 w')
          (first | (refine HCN.out _ ?_; exact hbr') | (refine HCN.out _ ?_; assumption))
          (first | (go_at_call 13; refine (HRD1.out _ HB.out).mono ?_; rintro e w11 ⟨v1, rfl, hr11, hb11⟩; have hw11 := HTW.out _ _ HB.out hb11; obtain ⟨v1a, v1c, rfl⟩ := slice_of_row hr11))
        all_goals
          have HB11 : Hid (Below w10.heap.size w10 w11.drew) := hw11.drew
          have HV1 : Hid (∀ W, Below w11.heap.size w11 W → W.ownsRow wr.heap.size 5 1 (.slice v1a bs.length v1c) bs.length (byteVals bs)) := fun W hb => row_still hr11 hb
          have hD11 : Below w11.heap.size w11 w11.drew := (Below.refl _ w11).drew
          have HD11 : Hid (Below w11.heap.size w11 w11.drew) := hD11
          have HBW : Hid (w10.heap.size ≤ wr.heap.size ∧ wr.heap.size ≤ w11.heap.size) := ⟨hbr.out.size, hb11.size⟩
          obtain ⟨g0, g1, g2, hw11'⟩ := HCN.out w11 hw11
          clear f0 f1 f2 hbr' HB hr11 hb11 hD11
          go_wp2_with fail
          go_region_held3 (fun w' => w'.cell? ⟨p, 0, none⟩ = some (.pointer (some ⟨d, 0, none⟩)) ∧ w'.cell? ⟨p, 1, none⟩ = some (.pointer (some ⟨r, 0, none⟩)) ∧ w'.cell? ⟨gn, j, none⟩ = some (.string xb) ∧ Below w10.heap.size w10 w')
            (first | (refine HCN.out _ ?_; exact hw11') | (refine HCN.out _ ?_; assumption))
            (first | (go_at_call 25; refine (HRR1.out _ HB11.out).mono ?_; rintro e w12 ⟨v2, rfl, hr12, hb12⟩; have hw12 := HTW.out _ _ HB11.out hb12; obtain ⟨v2a, v2c, rfl⟩ := slice_of_row hr12))
          all_goals
            have hb12' : Below w11.heap.size w11 w12 := below_to HD11.out hb12 HD11.out.size
            have hr1 := HV1.out _ hb12'
            have hcv1 : (convert 31 9 (.slice v1a bs.length v1c)).run Try.prog w12 = .ok (.string ⟨bs.toArray⟩) w12 := BytesAt.str (BytesAt.of_row hr1)
            have hcv2 : (convert 31 9 (.slice v2a bs.length v2c)).run Try.prog w12 = .ok (.string ⟨bs.toArray⟩) w12 := BytesAt.str (BytesAt.of_row hr12)
            have HSP : Hid (∀ w13, Kept (fun i => (Value.slice v1a bs.length v1c).ownBlock = some i) w12 w13 → Below w10.heap.size w10 w13 ∧ w13.ownsRow w11.heap.size 5 1 (.slice v2a bs.length v2c) bs.length (byteVals bs)) := fun w13 hk13 => by
              refine ⟨hw12.trans (hk13.toBelow hw12.size (fun i hi => ?_)), hk13.ownsRow hr12 (fun i hi hi' => ?_)⟩
              · have h1 := (hr1.lt i hi).1
                have h2 := HBW.out.1
                omega
              · have h1 := (hr12.lt i hi).1
                have h2 := (HV1.out w11 (Below.refl _ _)).lt i hi'
                have h3 : w11.drew.heap.size = w11.heap.size := rfl
                omega
            have hsz12 : wr.heap.size ≤ w12.heap.size := Nat.le_trans HBW.out.2 hb12'.size
            clear g0 g1 g2 hw11' HB11 hb12 HRR1 HV1
            generalize (ByteArray.mk bs.toArray) = tx at *
            go_upto_region 14 with (go_at_call 32; refine (spoilB_any wr.heap.size _ bs _ hr1 (by omega) hsz12).mono ?_; rintro e w13 ⟨rfl, hk13⟩; obtain ⟨hw13, hr13⟩ := HSP.out _ hk13; obtain ⟨k0, k1, k2, hw13'⟩ := HCN.out w13 hw13; clear HSP hk13 hcv1 hcv2)
            have HB13 : Hid (Below w10.heap.size w10 w13.drew) := hw13.drew
            have HV2 : Hid (∀ W, Below w13.heap.size w13 W → W.ownsRow w11.heap.size 5 1 (.slice v2a bs.length v2c) bs.length (byteVals bs)) := fun W hb => row_still hr13 hb
            have HD13 : Hid (Below w13.heap.size w13 w13.drew) := (Below.refl _ w13).drew
            go_region_held3 (fun w' => w'.cell? ⟨p, 0, none⟩ = some (.pointer (some ⟨d, 0, none⟩)) ∧ w'.cell? ⟨p, 1, none⟩ = some (.pointer (some ⟨r, 0, none⟩)) ∧ w'.cell? ⟨gn, j, none⟩ = some (.string xb) ∧ Below w10.heap.size w10 w')
              (first | (refine HCN.out _ ?_; exact hw13') | (refine HCN.out _ ?_; assumption))
              (first | (go_at_call 13; refine (HRD1.out _ HB13.out).mono ?_; rintro e w14 ⟨v3, rfl, hr14, hb14⟩; have hw14 := HTW.out _ _ HB13.out hb14; obtain ⟨v3a, v3c, rfl⟩ := slice_of_row hr14))
            all_goals
              have hr2 := HV2.out _ (below_to HD13.out hb14 HD13.out.size)
              have hcv3 : (convert 31 9 (.slice v3a bs.length v3c)).run Try.prog w14 = .ok (.string ⟨bs.toArray⟩) w14 := BytesAt.str (BytesAt.of_row hr14)
              have hcv4 : (convert 31 9 (.slice v2a bs.length v2c)).run Try.prog w14 = .ok (.string ⟨bs.toArray⟩) w14 := BytesAt.str (BytesAt.of_row hr2)
              generalize (ByteArray.mk bs.toArray) = ty at *
              go_wp2_with fail
              go_roundw
              case rel => exact ⟨j + 1, by omega, by go_num, hw14⟩
              case measure => simp [intOf]; omega
      · have ej : j = nms.length := by omega
        subst ej
        obtain ⟨f0, f1⟩ := HA10.out wr hbr.out
        clear HSZ HRD HRR HLEN
        go_wp2_with (first
          | (go_at_call 12; refine (HLI10.out _ hbr.out).mono ?_; rintro e w15 ⟨v5, rfl, hr15, hb15⟩; have hw15 := HTW.out _ _ hbr.out hb15; have hS1 := StrsAt.of_row hr15; have hS2 := HLT.out _ hw15; obtain ⟨v5a, v5c, rfl⟩ := slice_of_row hr15)
          | (go_at_call 14; refine (texts_any _ _ _ _ hS1 hS2).mono ?_; rintro e w16 ⟨rfl, q16, hq16⟩))
        go_ret
        refine ⟨rfl, ?_⟩
        have hh := HTO.out _ hw15
        have : ∀ q, Below w.heap.size w (w15.drewN q) := fun q => by
          induction q with
          | zero => exact hh
          | succ q ih => exact ih.drew
        exact this q16

end Go.Proofs.Ytipakfdebccchaa
