/- LabelsParts, walked. -/
import Derived.Test.YtcpoknmachphnabDoorLw
import Derived.Test.YtcpoknmachphnabDoorLq
import Derived.Deep.RegionHeld3
namespace Go.Proofs.YtcpoknmachphnabDoor
open Go.RowKit

theorem TextsAt.take {w : World} {a : Option Addr} {n c : Nat} {ss : List ByteArray} (h : TextsAt w (.slice a n c) ss) (k : Nat) (hk : k ≤ n) : TextsAt w (.slice a k c) (ss.take k) := by
  obtain ⟨a', c', e, hlc, hc⟩ := h
  cases e
  have hl : (ss.take k).length = k := by simp; omega
  refine ⟨a, c, by rw [hl], ⟨by omega, hlc.2⟩, fun i hi => ?_⟩
  obtain ⟨b, o, e, h1, h2, h3⟩ := hc i (by omega)
  have e9 : (ss.take k)[i] = ss[i]'(by omega) := by simp
  exact ⟨b, o, e, h1, by rw [h2, e9], by rw [e9]; exact h3⟩
theorem eqL_self (s : List Lb) : eqL s s = true := by simp [eqL]

set_option maxRecDepth 100000 in
set_option maxHeartbeats 6000000 in
theorem parts_any (v u : Value) (ls : List Lb) (ns : List ByteArray) (w : World) (h : LabsAt w v ls) (hsz : Sized ls) (hn : TextsAt w u ns) (hT : Tabs w) :
    Calls Tryd.prog 5 #[v, u] w fun e w' => e = .returned (.bool true) ∧ Below w.heap.size w w' := by
  have hset := set_any v ls w h hsz
  have hs := setL_right ls
  obtain ⟨a, c, rfl, -, -⟩ := id h
  obtain ⟨an, cn, rfl, hlc, -⟩ := id hn
  generalize setL ls = s at *
  have hs64 := ((rightS_iff s).1 hs).1
  have HN : Hid (TextsAt w (.slice an ns.length cn) ns) := hn
  have HT : Hid (Tabs w) := hT
  have hmx : cn ≤ 9223372036854775807 := by have h1 := hlc; unfold maxLen at h1; omega
  clear h hsz hn hT
  obtain ⟨n20, hn20⟩ : ∃ n20, n20 = ns.take 20 := ⟨_, rfl⟩
  obtain ⟨la, hla⟩ : ∃ la, la = chosenL s n20 true := ⟨_, rfl⟩
  obtain ⟨lb, hlb⟩ : ∃ lb, lb = chosenL s n20 false := ⟨_, rfl⟩
  have HONLY : Hid (∀ U, TextsAt w U n20 → ∀ V W, Below w.heap.size w W → LabsAt W V s → Calls Tryd.prog 15 #[V, U] W fun e w' => ∃ a c, e = .returned (.slice a la.length c) ∧ LabsAt w' (.slice a la.length c) la ∧ Below W.heap.size W w') := fun U hU V W hW hV => (only_any V U s n20 W hV (by omega) (hU.below hW)).mono fun e w' ⟨v', he, hr, hb⟩ => by
    rw [← hla] at hr
    obtain ⟨a, c, rfl⟩ := slice_of_row hr
    exact ⟨a, c, he, LabsAt.of_row hr, hb⟩
  have HBUT : Hid (∀ U, TextsAt w U n20 → ∀ V W, Below w.heap.size w W → LabsAt W V s → Calls Tryd.prog 16 #[V, U] W fun e w' => ∃ a c, e = .returned (.slice a lb.length c) ∧ LabsAt w' (.slice a lb.length c) lb ∧ Below W.heap.size W w') := fun U hU V W hW hV => (but_any V U s n20 W hV (by omega) (hU.below hW)).mono fun e w' ⟨v', he, hr, hb⟩ => by
    rw [← hlb] at hr
    obtain ⟨a, c, rfl⟩ := slice_of_row hr
    exact ⟨a, c, he, LabsAt.of_row hr, hb⟩
  have hra : rightS la = true := by rw [hla]; exact chosen_right hs n20 true
  have hrb : rightS lb = true := by rw [hlb]; exact chosen_right hs n20 false
  have hlen : lb.length + la.length = s.length := by rw [hla, hlb, ← List.length_append]; exact (chosen_perm s n20).length_eq
  have HRA : Hid (∀ V W, Below w.heap.size w W → LabsAt W V la → Calls Tryd.prog 17 #[V] W fun e w' => e = .returned (.bool true) ∧ Below W.heap.size W w') := fun V W hW hV => by
    have h9 := right_any V la W hV (by omega) (right_sized hra) (HT.out.below hW)
    rw [hra] at h9
    exact h9
  have HRB : Hid (∀ V W, Below w.heap.size w W → LabsAt W V lb → Calls Tryd.prog 17 #[V] W fun e w' => e = .returned (.bool true) ∧ Below W.heap.size W w') := fun V W hW hV => by
    have h9 := right_any V lb W hV (by omega) (right_sized hrb) (HT.out.below hW)
    rw [hrb] at h9
    exact h9
  have HK0 : Hid (Bk s n20 0 lb) := by show Bk _ _ _ _; rw [hlb]; exact Bk.zero hs n20
  have HKF : Hid (∀ k l (hk : k < la.length), Bk s n20 k l → getL l la[k].1 = ⟨#[]⟩) := by subst hla; exact fun k l hk h => getL_fresh (h.fresh hs hk)
  have HKS : Hid (∀ k l (hk : k < la.length), Bk s n20 k l → Bk s n20 (k + 1) (withL l la[k].1 la[k].2)) := by subst hla; exact fun k l hk h => h.succ hs hk
  have HKD : Hid (∀ k l, la.length ≤ k → Bk s n20 k l → l = s) := by subst hla; exact fun k l hk h => h.done hs hk
  have HKL : Hid (∀ k l, Bk s n20 k l → l.length ≤ 64) := fun k l h => h.length hs
  have HALL : Hid (∀ V V' W, Below w.heap.size w W → LabsAt W V s → LabsAt W V' s → Calls Tryd.prog 20 #[V, V'] W fun e w' => e = .returned (.bool true) ∧ Below W.heap.size W w') := fun V V' W hW h1 h2 => (alike_any V V' s s W h1 h2 (by omega) (by omega)).mono fun e w' ⟨he, q, hq⟩ => ⟨by rw [he, eqL_self], by rw [hq]; exact below_drewN (Below.refl _ _) q⟩
  have HCMP : Hid (∀ V V' W, Below w.heap.size w W → LabsAt W V s → LabsAt W V' s → Calls Tryd.prog 21 #[V, V'] W fun e w' => e = .returned (.int .i64 0) ∧ Below W.heap.size W w') := fun V V' W hW h1 h2 => by
    have h9 := compare_sets V V' s s W h1 h2 (by omega) (by omega)
    rw [tcL.self s] at h9
    exact h9
  have HWK : Hid (∀ W, Below w.heap.size w W → Calls Tryd.prog 9 #[] W fun e w' => e = .returned (.bool true) ∧ Below w.heap.size w w') := fun W hW => (wakes_any W (HT.out.below hW)).mono fun e w' ⟨he, hb⟩ => ⟨he, hW.trans (hb.mono hW.size)⟩
  clear hra hrb hla hlb HT
  have hcase : (20 < ns.length ∧ ∃ bn on, an = some ⟨bn, on, none⟩ ∧ Hid (TextsAt w (.slice an 20 cn) n20) ∧ (20 : Int) ≤ (cn : Int)) ∨ (¬ 20 < ns.length ∧ Hid (TextsAt w (.slice an ns.length cn) n20)) := by
    rcases Nat.lt_or_ge 20 ns.length with h20 | h20
    · obtain ⟨bn, on, e, -⟩ := HN.out.one 0 (by omega)
      exact Or.inl ⟨h20, bn, on, e, by rw [hn20]; exact HN.out.take 20 (by omega), by omega⟩
    · exact Or.inr ⟨by omega, by rw [hn20, List.take_of_length_le h20]; exact HN.out⟩
  clear HN hn20
  rcases hcase with ⟨h20, bn, on, rfl, HU, h20i⟩ | ⟨h20, HU⟩
  all_goals
    go_enter Tryd.func5, Tryd.ntmps5
    go_wp2_with (first
      | (go_at_call 6; refine hset.mono ?_; clear hset; rintro e w1 ⟨v1, rfl, hr1, hb1⟩; obtain ⟨sa, cs, rfl⟩ := slice_of_row hr1; have HL1 : Hid (LabsAt w1 (.slice sa s.length cs) s) := LabsAt.of_row hr1; have HB1 : Hid (Below w.heap.size w w1) := hb1; clear hr1 hb1)
      | (go_at_call 15; refine (HONLY.out _ HU.out _ _ HB1.out HL1.out).mono ?_; clear HONLY; rintro e w2 ⟨aa, ca, rfl, ha2, hb2⟩; have HL2 : Hid (LabsAt w2 (.slice sa s.length cs) s) := HL1.out.below hb2; have HA2 : Hid (LabsAt w2 (.slice aa la.length ca) la) := ha2; have HB2 : Hid (Below w.heap.size w w2) := HB1.out.trans (hb2.mono HB1.out.size); clear ha2 hb2 HL1 HB1)
      | (go_at_call 16; refine (HBUT.out _ HU.out _ _ HB2.out HL2.out).mono ?_; clear HBUT HU; rintro e w3 ⟨ab, cb, rfl, hc3, hb3⟩; have HL3 : Hid (LabsAt w3 (.slice sa s.length cs) s) := HL2.out.below hb3; have HA3 : Hid (LabsAt w3 (.slice aa la.length ca) la) := HA2.out.below hb3; have HC3 : Hid (LabsAt w3 (.slice ab lb.length cb) lb) := hc3; have HB3 : Hid (Below w.heap.size w w3) := HB2.out.trans (hb3.mono HB2.out.size); clear hc3 hb3 HL2 HA2 HB2)
      | (go_at_call 17; refine (HRA.out _ _ HB3.out HA3.out).mono ?_; clear HRA; rintro e w4 ⟨rfl, hb4⟩; have HL4 : Hid (LabsAt w4 (.slice sa s.length cs) s) := HL3.out.below hb4; have HA4 : Hid (LabsAt w4 (.slice aa la.length ca) la) := HA3.out.below hb4; have HC4 : Hid (LabsAt w4 (.slice ab lb.length cb) lb) := HC3.out.below hb4; have HB4 : Hid (Below w.heap.size w w4) := HB3.out.trans (hb4.mono HB3.out.size); clear hb4 HL3 HA3 HC3 HB3)
      | (go_at_call 17; refine (HRB.out _ _ HB4.out HC4.out).mono ?_; clear HRB; rintro e w5 ⟨rfl, hb5⟩; have HL5 : Hid (LabsAt w5 (.slice sa s.length cs) s) := HL4.out.below hb5; have HA5 : Hid (LabsAt w5 (.slice aa la.length ca) la) := HA4.out.below hb5; have HC5 : Hid (LabsAt w5 (.slice ab lb.length cb) lb) := HC4.out.below hb5; have HB5 : Hid (Below w.heap.size w w5) := HB4.out.trans (hb5.mono HB4.out.size); clear hb5 HL4 HA4 HC4 HB4))
    go_loopw [7, 8] (fun vb i wr => ∃ (k : Nat) (l : List Lb) (av : Option Addr) (cv : Nat), k ≤ la.length ∧ i = .int .i64 k ∧ vb = .slice av l.length cv ∧ Hid (LabsAt wr (.slice av l.length cv) l) ∧ Hid (Bk s n20 k l) ∧ Hid (Below w5.heap.size w5 wr)) (fun _ i _ => la.length - (intOf i).toNat)
    case atStart => exact ⟨0, lb, ab, cb, Nat.zero_le _, rfl, rfl, HC5, HK0, Below.refl _ _⟩
    case round =>
      obtain ⟨k, l, av, cv, hk, rfl, rfl, hll, hbk, hbel⟩ := hrel
      have hl64 := HKL.out k l hbk.out
      by_cases hlt : k < la.length
      · obtain ⟨b, o, rfl, hone⟩ := HA5.out.one k hlt
        have hfr := HKF.out k l hlt hbk.out
        have hsu := HKS.out k l hlt hbk.out
        obtain ⟨x, hx⟩ : ∃ x, x = la[k] := ⟨_, rfl⟩
        rw [← hx] at hone hfr hsu
        clear hx
        obtain ⟨x1, x2⟩ := x
        dsimp only at hone hfr hsu
        have hget := get_any _ l x1 wr hll.out (by omega)
        rw [hfr] at hget
        have HSU : Hid (Bk s n20 (k + 1) (withL l x1 x2)) := hsu
        have HW : Hid (∀ W, Below w5.heap.size w5 W → LabsAt W (.slice av l.length cv) l → Calls Tryd.prog 19 #[.slice av l.length cv, .string x1, .string x2] W fun e w' => ∃ a1 c1, e = .returned (.slice a1 (withL l x1 x2).length c1) ∧ LabsAt w' (.slice a1 (withL l x1 x2).length c1) (withL l x1 x2) ∧ Below w5.heap.size w5 w') := fun W hW hV => (with_any _ l x1 x2 W hV (by omega)).mono fun e w' ⟨v', he, hr, hb⟩ => by
          obtain ⟨a1, c1, rfl⟩ := slice_of_row hr
          exact ⟨a1, c1, he, LabsAt.of_row hr, hW.trans (hb.mono hW.size)⟩
        have HO : Hid (∀ W, Below w5.heap.size w5 W → W.cell? ⟨b, o + k * 2, none⟩ = some (.string x1) ∧ W.cell? ⟨b, o + k * 2 + 1, none⟩ = some (.string x2)) := hone
        obtain ⟨g0, g1⟩ := HO.out wr hbel.out
        clear hone hfr hsu
        generalize withL l x1 x2 = l2 at *
        have hkl : (k : Int) < (la.length : Int) := by omega
        go_wp2_with (go_at_call 18; refine hget.mono ?_; clear hget; rintro e w6 ⟨rfl, hb6⟩; have HB6 : Hid (Below w5.heap.size w5 w6) := hbel.out.trans (hb6.mono hbel.out.size); have HL6 : Hid (LabsAt w6 (.slice av l.length cv) l) := hll.out.below hb6; clear hb6)
        obtain ⟨d0, d1⟩ := HO.out w6 HB6.out
        have HB7 : Hid (Below w5.heap.size w5 w6.drew) := HB6.out.drew
        have HL7 : Hid (LabsAt w6.drew (.slice av l.length cv) l) := HL6.out.below (Below.refl _ _).drew
        go_region_held3 (fun w' => w'.cell? ⟨b, o + k * 2, none⟩ = some (.string x1) ∧ w'.cell? ⟨b, o + k * 2 + 1, none⟩ = some (.string x2))
          (first | exact ⟨d0, d1⟩ | exact ⟨f0, f1⟩)
          (first | (go_at_call 19; refine (HW.out _ HB7.out HL7.out).mono ?_; rintro e w8 ⟨a1, c1, rfl, hl8, hb8⟩; obtain ⟨f0, f1⟩ := HO.out w8 hb8))
        go_wp2
        go_roundw
        case rel => exact ⟨k + 1, l2, a1, c1, by omega, by go_num, rfl, hl8, HSU, hb8⟩
        case measure => simp [intOf]; omega
      · have hd := HKD.out k l (by omega) hbk.out
        subst hd
        have HBw : Hid (Below w.heap.size w wr) := HB5.out.trans (hbel.out.mono HB5.out.size)
        have HLw : Hid (LabsAt wr (.slice sa l.length cs) l) := HL5.out.below hbel.out
        clear HKF HKS HKD HKL HK0 hbk hbel HC5 HA5 HL5
        go_wp2_with (first
          | (go_at_call 20; refine (HALL.out _ _ _ HBw.out hll.out HLw.out).mono ?_; clear HALL; rintro e w6 ⟨rfl, hb6⟩; have HL6 : Hid (LabsAt w6 (.slice av l.length cv) l) := hll.out.below hb6; have HM6 : Hid (LabsAt w6 (.slice sa l.length cs) l) := HLw.out.below hb6; have HB6 : Hid (Below w.heap.size w w6) := HBw.out.trans (hb6.mono HBw.out.size); clear hb6)
          | (go_at_call 21; refine (HCMP.out _ _ _ HB6.out HL6.out HM6.out).mono ?_; clear HCMP; rintro e w7 ⟨rfl, hb7⟩; have HB7 : Hid (Below w.heap.size w w7) := HB6.out.trans (hb7.mono HB6.out.size); clear hb7)
          | (go_at_call 9; refine (HWK.out _ HB7.out).mono ?_; rintro e w9 ⟨rfl, hb9⟩))
        go_ret
        exact ⟨rfl, hb9⟩

end Go.Proofs.YtcpoknmachphnabDoor
