/- DiskTwice, walked. -/
import Derived.Test.YtipakfdebccchaaMU3
namespace Go.Proofs.Ytipakfdebccchaa
open Go.RowKit Go.Maps Go.Sort

section
variable {w W : World} {d B1 k : Nat} {Z : Nat → Prop} {A : RA} {lv wasv : Value} {vals : List Value} {j : Nat} (h : TW w W d B1 k Z A lv wasv vals j) (hk : k ≤ 1000)
include h
theorem TW.strs : StrsAt W lv (namesL A.dir []) := StrsAt.of_row h.lrow
theorem TW.drewN (q : Nat) : TW w (W.drewN q) d B1 k Z A lv wasv vals j := by
  refine h.below ?_
  have : ∀ q, Below W.heap.size W (W.drewN q) := fun q => by
    induction q with
    | zero => exact Below.refl _ _
    | succ q ih => exact ih.drew
  exact this q
include hk
theorem tw_list : Calls Try.prog 12 #[.pointer (some ⟨d, 0, none⟩), .string ⟨#[]⟩] W fun e w' => ∃ v, e = .returned v ∧ StrsAt w' v (namesL A.dir []) ∧ TW w w' d B1 k Z A lv wasv vals j :=
  (Q_list h.pq hk ⟨#[]⟩).mono (fun _e _w' ⟨v, he, hr, hb⟩ => ⟨v, he, StrsAt.of_row hr, h.below hb⟩)
theorem tw_durable (hd : A.kept = A.dir) : Calls Try.prog 15 #[.pointer (some ⟨d, 0, none⟩)] W fun e w' => ∃ v, e = .returned v ∧ StrsAt w' v (namesL A.dir []) ∧ TW w w' d B1 k Z A lv wasv vals j :=
  (Q_durable h.pq hk).mono (fun e w' ⟨v, he, hr, hb⟩ => ⟨v, he, by rw [← hd]; exact StrsAt.of_row hr, h.below hb⟩)
theorem tw_read {i : Nat} (hi : i < (namesL A.dir []).length) {xb : ByteArray} (h0 : (namesL A.dir [])[i] = xb.data.toList) (h1 : xb.size ≤ maxLen) (h2 : (A.readR xb).1 = 0) : Calls Try.prog 13 #[.pointer (some ⟨d, 0, none⟩), .string xb] W fun e w' => ∃ v, e = .returned (.tuple #[v, .int .i64 0]) ∧ w'.ownsRow B1 5 1 v (rdOf A i).length (byteVals (rdOf A i)) ∧ TW w w' d B1 k Z A lv wasv vals j := by
  refine (Q_read h.pq hk xb h1).mono ?_
  rintro e w' ⟨v, he, hr, hb⟩
  rw [h2] at he
  rw [← rdOf_eq hi h0] at hr
  exact ⟨v, he, row_base hr h.hi, h.below hb⟩
end

theorem tw_start {w wr : World} {d k : Nat} {Z : Nat → Prop} {a : RA} (h : PQ wr d w.heap.size k Z a) (hb : Below w.heap.size w wr) (hk : k ≤ 200) (av : Value) (ca : List Int) (hia : IntsAt w av ca) (hla : ∀ b, av.ownBlock = some b → ca ≠ [] → b < w.heap.size) :
    Calls Try.prog 11 #[.pointer (some ⟨d, 0, none⟩), av] wr fun e w1 => e = .returned (.tuple #[]) ∧ Calls Try.prog 12 #[.pointer (some ⟨d, 0, none⟩), .string ⟨#[]⟩] w1 fun e w2 => ∃ lv B1 Z', e = .returned lv ∧ TW w w2 d B1 (k + 1) Z' (a.crash ca) lv (.slice none 0 0) [] 0 ∧ ∀ b, Z' b → b < B1 := by
  have k' : Kept (fun i => w.heap.size ≤ i) w wr := ⟨hb.os, hb.tape, hb.output, hb.size, fun i _ hi => hb.block i (by omega)⟩
  have hI : IntsAt wr av ca := hia.kept k' (fun b hb1 hne e => by have := hla b hb1 hne; omega)
  refine (Q_crash h (by omega) av ca hI hla).mono ?_
  rintro e w1 ⟨he, hq, hK⟩
  have h1 : Below w.heap.size w w1 := hb.trans (hK.toBelow hb.size)
  refine ⟨he, (Q_list hq (by omega) ⟨#[]⟩).mono ?_⟩
  rintro e w2 ⟨v, he, hr, hb2⟩
  exact ⟨v, w1.heap.size, _, he, ⟨hq.below hb2, below_to h1 hb2 h1.size, h1.size, hb2.size, hr, World.ownsRow_nil _ _ _ _, fun i hi => absurd hi (Nat.not_lt_zero i)⟩, fun b hz => hq.zlt b hz⟩

set_option maxRecDepth 100000 in
set_option maxHeartbeats 8000000 in
theorem twice_any (oa : Option Addr) (len cap : Nat) (fo : Nat → OpV) (w : World) (hop : ∀ i, i < len → ∃ b off, oa = some ⟨b, off, none⟩ ∧ b < w.heap.size ∧ OpAt w b (off + i * 7) (fo i))
    (av bv : Value) (ca cb : List Int) (hia : IntsAt w av ca) (hla : ∀ b, av.ownBlock = some b → ca ≠ [] → b < w.heap.size) (hib : IntsAt w bv cb) (hlb : ∀ b, bv.ownBlock = some b → cb ≠ [] → b < w.heap.size) :
    Calls Try.prog 4 #[.slice oa len cap, av, bv] w fun e w' => e = .returned (.bool true) ∧ Below w.heap.size w w' := by
  have HO : Hid (∀ i, i < len → ∃ b off, oa = some ⟨b, off, none⟩ ∧ b < w.heap.size ∧ OpAt w b (off + i * 7) (fo i)) := hop
  have HA : Hid (∀ {wr : World} {d k : Nat} {Z : Nat → Prop} {a : RA}, PQ wr d w.heap.size k Z a → Below w.heap.size w wr → k ≤ 200 → Calls Try.prog 11 #[.pointer (some ⟨d, 0, none⟩), av] wr fun e w1 => e = .returned (.tuple #[]) ∧ Calls Try.prog 12 #[.pointer (some ⟨d, 0, none⟩), .string ⟨#[]⟩] w1 fun e w2 => ∃ lv B1 Z', e = .returned lv ∧ TW w w2 d B1 (k + 1) Z' (a.crash ca) lv (.slice none 0 0) [] 0 ∧ ∀ b, Z' b → b < B1) := fun h hb hk => tw_start h hb hk av ca hia hla
  have HB : Hid (∀ {W : World} {d B1 k : Nat} {Z : Nat → Prop} {A : RA} {lv wasv : Value} {vals : List Value} {j : Nat}, TW w W d B1 k Z A lv wasv vals j → k ≤ 999 → (∀ b, Z b → b < B1) → A.crash cb = A → Calls Try.prog 11 #[.pointer (some ⟨d, 0, none⟩), bv] W fun e W' => e = .returned (.tuple #[]) ∧ ∃ Z', TW w W' d B1 (k + 1) Z' A lv wasv vals j) := fun h hk hz hd => h.again hk hz hd bv hib hlb
  clear hop hia hla hib hlb
  go_enter Try.func4, Try.ntmps4
  go_wp2_with (first
    | (go_at_call 5; refine (new_any 2000 _).mono ?_; rintro e w1 ⟨rfl, hI1, hb1⟩)
    | (go_at_call 6; refine (refNew_is 2000 _).mono ?_; rintro e w2 ⟨rfl, hR2, hb2⟩))
  have HN : Hid (_ ∧ _) := start (cap := 2000) (by decide) hI1 hb1 hR2 hb2 rfl
  clear hI1 hb1 hR2 hb2
  generalize w1.heap.size = r at *
  generalize w2.heap.size = p at *
  generalize w.heap.size + 3 = d at *
  go_loopw [9] (fun i wr => ∃ (k : Nat) (a : RA), k ≤ len ∧ k ≤ 200 ∧ i = .int .i64 k ∧ PW wr p d r w.heap.size k a ∧ Below w.heap.size w wr) (fun i _ => 200 - (intOf i).toNat)
  case atStart => exact ⟨0, _, Nat.zero_le _, Nat.zero_le _, rfl, HN.out.1, HN.out.2.1⟩
  case round =>
    obtain ⟨k, a, hk, hk1, rfl, hN, hbr⟩ := hrel
    by_cases hc : k < len ∧ k < 200
    · obtain ⟨hlk, h200⟩ := hc
      obtain ⟨b, off, e0, hlt, hO⟩ := HO.out k hlk
      subst e0
      have HX : Hid (Calls Try.prog 7 #[.pointer (some ⟨p, 0, none⟩), .agg #[.int .i64 (fo k).act, .int .i64 (fo k).n, .int .i64 (fo k).k, .string (fo k).name, .string (fo k).dest, (fo k).bv, (fo k).cv]] wr fun e w' => e = .returned (.bool true) ∧ ∃ a1, PW w' p d r w.heap.size (k + 1) a1 ∧ Below w.heap.size w w') := ex_op hN (by omega) hbr (fo k) hO.ok
      obtain ⟨o0, o1, o2, o3, o4, o5, o6⟩ := hO.cells hbr hlt
      have hok := hO.ok
      clear hO
      generalize fo k = x at *
      obtain ⟨act, xn, xk, name, dest, bv0, bs, cv, cs⟩ := x
      obtain ⟨ba, bc, e1, _, _⟩ := hok.bytes.1.shape
      obtain ⟨ca0, cc, e2, _, _⟩ := hok.ints
      simp only at e1 e2 o0 o1 o2 o3 o4 o5 o6
      subst e1 e2
      clear hok hN
      go_wp2_with (go_at_call 7; refine HX.out.mono ?_; rintro e w3 ⟨rfl, a1, hP1, hb3⟩)
      go_roundw
      case rel => exact ⟨k + 1, a1, by omega, by omega, by go_num, hP1, hb3⟩
      case measure => simp [intOf]; omega
    · have h200' : k < len → ¬ ((k : Int) < 200) := fun h1 h2 => hc ⟨h1, by omega⟩
      clear hc HO
      have HC : Hid (Calls Try.prog 11 #[.pointer (some ⟨d, 0, none⟩), av] wr fun e w1 => e = .returned (.tuple #[]) ∧ Calls Try.prog 12 #[.pointer (some ⟨d, 0, none⟩), .string ⟨#[]⟩] w1 fun e w2 => ∃ lv B1 Z', e = .returned lv ∧ TW w w2 d B1 (k + 1) Z' (a.crash ca) lv (.slice none 0 0) [] 0 ∧ ∀ b, Z' b → b < B1) := HA.out ⟨hN.prog, hN.inv⟩ hbr hk1
      have HI : Hid (Inv (k + 1) (k + 1) (a.crash ca) ∧ (a.crash ca).crash cb = a.crash ca ∧ (a.crash ca).kept = (a.crash ca).dir) := ⟨hN.inv.crash ca, crash_twice hN.inv ca cb, rfl⟩
      clear hN hbr HA
      generalize a.crash ca = A at *
      by_cases hlk : k < len
      all_goals
        first | (have h200 := h200' hlk) | skip
        clear h200'
        go_wp2_with (first
          | (go_at_call 11; refine HC.out.mono ?_; rintro e w3 ⟨rfl, hL⟩)
          | (go_at_call 12; refine hL.mono ?_; rintro e w4 ⟨lv, B1, Z1, rfl, hT, hz⟩; clear hL))
        have hn1 : (namesL A.dir []).length ≤ 1000 := by
          have h1 := HI.out.1.tidyD.len
          have h2 := HI.out.1.nf
          rw [(namesL_perm _).length_eq, List.length_map]
          omega
        obtain ⟨la, lc, rfl⟩ := slice_of_row hT.lrow
        have HT : Hid (TW w w4 d B1 (k + 1) Z1 A (.slice la (namesL A.dir []).length lc) (.slice none 0 0) [] 0) := hT
        have HZ : Hid (∀ b, Z1 b → b < B1) := hz
        clear hT hz
        go_loopw [11, 12] (fun was i wr => ∃ (j : Nat) (vals : List Value), j ≤ (namesL A.dir []).length ∧ i = .int .i64 j ∧ TW w wr d B1 (k + 1) Z1 A (.slice la (namesL A.dir []).length lc) was vals j) (fun _ i _ => (namesL A.dir []).length - (intOf i).toNat)
        case atStart => exact ⟨0, [], Nat.zero_le _, rfl, HT.out⟩
        case round =>
          obtain ⟨j, vals, hj, rfl, hT⟩ := hrel
          obtain ⟨wa, wc, rfl⟩ := slice_of_row hT.wrow
          by_cases hlt : j < (namesL A.dir []).length
          · obtain ⟨xb, hx0, hx1, hx2, hx3⟩ := names_read HI.out.1 hlt
            obtain ⟨gn, gnc, hgn⟩ := row_some hT.lrow (by omega)
            have e9 : la = some ⟨gn, 0, none⟩ := by simp at hgn; exact hgn.1
            subst e9
            have hcell : wr.cell? ⟨gn, j, none⟩ = some (.string xb) := by
              have h3 := hT.lrow.cells (g := gn) rfl j (encStr (namesL A.dir [])[j]) (by simp [hlt])
              rw [Addr.add_lit, Nat.zero_add, hx1] at h3
              exact h3
            have HR : Hid (Calls Try.prog 13 #[.pointer (some ⟨d, 0, none⟩), .string xb] wr fun e w' => ∃ v, e = .returned (.tuple #[v, .int .i64 0]) ∧ w'.ownsRow B1 5 1 v (rdOf A j).length (byteVals (rdOf A j)) ∧ TW w w' d B1 (k + 1) Z1 A (.slice (some ⟨gn, 0, none⟩) (namesL A.dir []).length lc) (.slice wa j wc) vals j) := tw_read hT (by omega) hlt hx0 hx2 hx3
            have hjn : (j : Int) < ((namesL A.dir []).length : Int) := by omega
            clear hgn hx0 hx1 hx2 hx3 HC HB HT hT
            go_wp2_with (first
              | (go_at_call 13; refine HR.out.mono ?_; rintro e w5 ⟨v, rfl, hr5, hT5⟩; obtain ⟨va, vc, rfl⟩ := slice_of_row hr5)
              | (at_builtin; refine wpList_append_bs _ rfl _ _ rfl B1 _ j vals rfl (hT5.wrow.alloc _) w5.heap.size _ rfl (World.news_of_block (heap_alloc_new w5 _) 0 _ rfl) rfl (by omega) (by have := hT5.hi; simp; omega) ?_; intro v6 w6 hn6 hg6; have hT6 := hT5.more hr5 hn6 hg6))
            go_roundw
            case rel => exact ⟨j + 1, _, by omega, by go_num, hT6⟩
            case measure => simp [intOf]; omega
          · have ej : j = (namesL A.dir []).length := by omega
            subst ej
            have HC2 : Hid (Calls Try.prog 11 #[.pointer (some ⟨d, 0, none⟩), bv] wr fun e W' => e = .returned (.tuple #[]) ∧ ∃ Z', TW w W' d B1 (k + 1 + 1) Z' A (.slice la (namesL A.dir []).length lc) (.slice wa (namesL A.dir []).length wc) vals (namesL A.dir []).length) := HB.out hT (by omega) HZ.out HI.out.2.1
            clear HC HB HT hT hj
            go_wp2_with (first
              | (go_at_call 11; refine HC2.out.mono ?_; rintro e w7 ⟨rfl, Z2, hT7⟩; clear HC2)
              | (go_at_call 12; refine (tw_list hT7 (by omega)).mono ?_; rintro e w8 ⟨v8, rfl, hS8, hT8⟩; have hS1 := hT8.strs; obtain ⟨a8, c8, rfl, _, _⟩ := id hS8)
              | (go_at_call 14; refine (texts_any _ _ _ _ hS8 hS1).mono ?_; rintro e w9 ⟨rfl, q9, hq9⟩; have hT9 := hT8.drewN q9; rw [← hq9] at hT9; clear hq9 hS8 hS1 hT8)
              | (go_at_call 15; refine (tw_durable hT9 (by omega) HI.out.2.2).mono ?_; rintro e w8 ⟨v8, rfl, hS8, hT8⟩; have hS1 := hT8.strs; obtain ⟨a8, c8, rfl, _, _⟩ := id hS8; clear hT9))
            go_loopw [15] (fun i wr => ∃ (j : Nat), j ≤ (namesL A.dir []).length ∧ i = .int .i64 j ∧ TW w wr d B1 (k + 1 + 1) Z2 A (.slice la (namesL A.dir []).length lc) (.slice wa (namesL A.dir []).length wc) vals (namesL A.dir []).length) (fun i _ => (namesL A.dir []).length - (intOf i).toNat)
            case atStart => exact ⟨0, Nat.zero_le _, rfl, hT9⟩
            case round =>
              obtain ⟨j, hj, rfl, hT⟩ := hrel
              by_cases hlt : j < (namesL A.dir []).length
              · obtain ⟨xb, hx0, hx1, hx2, hx3⟩ := names_read HI.out.1 hlt
                obtain ⟨gn, gnc, hgn⟩ := row_some hT.lrow (by omega)
                have e9 : la = some ⟨gn, 0, none⟩ := by simp at hgn; exact hgn.1
                subst e9
                obtain ⟨gw, gwc, hgw⟩ := row_some hT.wrow (by omega)
                have e8 : wa = some ⟨gw, 0, none⟩ := by simp at hgw; exact hgw.1
                subst e8
                have hcell : wr.cell? ⟨gn, j, none⟩ = some (.string xb) := by
                  have h3 := hT.lrow.cells (g := gn) rfl j (encStr (namesL A.dir [])[j]) (by simp [hlt])
                  rw [Addr.add_lit, Nat.zero_add, hx1] at h3
                  exact h3
                obtain ⟨u, hu, hur⟩ := hT.bytes j hlt
                obtain ⟨ua, uc, rfl⟩ := slice_of_row hur
                have HR : Hid (Calls Try.prog 13 #[.pointer (some ⟨d, 0, none⟩), .string xb] wr fun e w' => ∃ v, e = .returned (.tuple #[v, .int .i64 0]) ∧ w'.ownsRow B1 5 1 v (rdOf A j).length (byteVals (rdOf A j)) ∧ TW w w' d B1 (k + 1 + 1) Z2 A (.slice (some ⟨gn, 0, none⟩) (namesL A.dir []).length lc) (.slice (some ⟨gw, 0, none⟩) (namesL A.dir []).length wc) vals (namesL A.dir []).length) := tw_read hT (by omega) hlt hx0 hx2 hx3
                have HU : Hid (∀ W, TW w W d B1 (k + 1 + 1) Z2 A (.slice (some ⟨gn, 0, none⟩) (namesL A.dir []).length lc) (.slice (some ⟨gw, 0, none⟩) (namesL A.dir []).length wc) vals (namesL A.dir []).length → W.cell? ⟨gw, j, none⟩ = some (.slice ua (rdOf A j).length uc) ∧ BytesAt W (.slice ua (rdOf A j).length uc) (rdOf A j)) := fun W hW => by
                  obtain ⟨u', hu', hur'⟩ := hW.bytes j hlt
                  rw [hu] at hu'
                  cases hu'
                  have h3 := hW.wrow.cells (g := gw) rfl j _ hu
                  rw [Addr.add_lit, Nat.zero_add] at h3
                  exact ⟨h3, BytesAt.of_row hur'⟩
                have hjn : (j : Int) < ((namesL A.dir []).length : Int) := by omega
                clear hgn hgw hx0 hx1 hx2 hx3 hT hT9 hur hu
                go_upto_region 25 with (go_at_call 13; refine HR.out.mono ?_; rintro e w5 ⟨v, rfl, hr5, hT5⟩; obtain ⟨va, vc, rfl⟩ := slice_of_row hr5)
                have hdr : TW w w5.drew d B1 (k + 1 + 1) Z2 A (.slice (some ⟨gn, 0, none⟩) (namesL A.dir []).length lc) (.slice (some ⟨gw, 0, none⟩) (namesL A.dir []).length wc) vals (namesL A.dir []).length := hT5.below (Below.refl _ w5).drew
                obtain ⟨q0, hq1⟩ := HU.out w5 hT5
                obtain ⟨q0', hq1'⟩ := HU.out w5.drew hdr
                have hv5 : BytesAt w5 (.slice va (rdOf A j).length vc) (rdOf A j) := BytesAt.of_row hr5
                have hv5' : BytesAt w5.drew (.slice va (rdOf A j).length vc) (rdOf A j) := BytesAt.of_row (row_still hr5 (Below.refl _ w5).drew)
                have c1 : (convert 31 9 (.slice va (rdOf A j).length vc)).run Try.prog w5 = .ok (.string ⟨(rdOf A j).toArray⟩) w5 := BytesAt.str hv5
                have c2 : (convert 31 9 (.slice ua (rdOf A j).length uc)).run Try.prog w5 = .ok (.string ⟨(rdOf A j).toArray⟩) w5 := BytesAt.str hq1
                have c1' : (convert 31 9 (.slice va (rdOf A j).length vc)).run Try.prog w5.drew = .ok (.string ⟨(rdOf A j).toArray⟩) w5.drew := BytesAt.str hv5'
                have c2' : (convert 31 9 (.slice ua (rdOf A j).length uc)).run Try.prog w5.drew = .ok (.string ⟨(rdOf A j).toArray⟩) w5.drew := BytesAt.str hq1'
                generalize (ByteArray.mk (rdOf A j).toArray) = tx at *
                clear hq1 hq1' hv5 hv5' HU HR hr5
                go_region_held3 (fun w' => w'.cell? ⟨gw, j, none⟩ = some (.slice ua (rdOf A j).length uc) ∧ (convert 31 9 (.slice va (rdOf A j).length vc)).run Try.prog w' = .ok (.string tx) w' ∧ (convert 31 9 (.slice ua (rdOf A j).length uc)).run Try.prog w' = .ok (.string tx) w')
                  (exact ⟨q0', c1', c2'⟩)
                  (fail)
                all_goals
                  go_wp2_with fail
                  go_roundw
                  case rel => exact ⟨j + 1, by omega, by go_num, hdr⟩
                  case measure => simp [intOf]; omega
              · have hbw := hT.bel
                go_wp2_with (go_at_call 10; refine (wakes_any _).mono ?_; rintro e w6 ⟨rfl, hb6⟩)
                go_ret
                exact ⟨rfl, below_to hbw hb6 hbw.size⟩

end Go.Proofs.Ytipakfdebccchaa
