/- CompactCuts, walked. -/
import Derived.Test.YtdmkfogohacaiaaZc
namespace Go.Proofs.Ytdmkfogohacaiaa
open Go.RowKit Go.Maps

set_option maxRecDepth 100000 in
set_option maxHeartbeats 4000000 in
/-- Behind the cut to a hundred. -/
theorem cutsLaw_of (v : Value) (ts us : List Int) (newest width : Int) (w : World) (h : InAt w v ts) (hu : us = ts.take 100) (hw : -9223372036854775808 ≤ width ∧ width ≤ 9223372036854775807) :
    Calls Try.prog 3 #[v, .int .i64 newest, .int .i64 width] w fun e w' => e = .returned (.bool true) ∧ Below w.heap.size w w' := by
  have mixed : Try.prog.follows .mixedOrders = true := by kernel_rfl
  obtain ⟨a1, c1, rfl, hc1, hc2, -⟩ := id h
  have hul : us.length = min 100 ts.length := by rw [hu]; simp
  have hcl : (cutsF us newest width).length ≤ 100 := by
    unfold cutsF
    refine Nat.le_trans (compact_le _) ?_
    unfold srt
    rw [List.length_mergeSort]
    unfold bsF
    refine Nat.le_trans (List.length_filter_le _ _) ?_
    simp
    omega
  have HU : Hid (∀ X, Below w.heap.size w X → InAt X (.slice a1 us.length c1) us) := fun X hX => by
    have h9 := InAt.take (RowAt.below h hX) (min 100 ts.length) (by omega)
    have h8 : ts.take (min 100 ts.length) = us := by
      rw [hu]
      rcases Nat.le_total 100 ts.length with e | e
      · rw [Nat.min_eq_left e]
      · rw [Nat.min_eq_right e, List.take_length, List.take_of_length_le e]
    rw [h8] at h9
    rw [hul]
    exact h9
  have HCU : Hid (∀ (X : World) (y : Value), InAt X y us → Calls Try.prog 5 #[y, .int .i64 newest, .int .i64 width] X fun e w' => ∃ a c, e = .returned (.slice a (cutsF us newest width).length c) ∧ w'.ownsRow X.heap.size 3 1 (.slice a (cutsF us newest width).length c) (cutsF us newest width).length (inC (cutsF us newest width)) ∧ Below X.heap.size X w') := fun X y hy => cuts_any y us newest width X hy (by omega) hw
  have HRC : Hid (∀ (X : World), Below w.heap.size w X → Calls Try.prog 7 #[.slice a1 us.length c1, .int .i64 newest, .int .i64 width] X fun e w' => ∃ u, e = .returned u ∧ InAt w' u (cutsF us newest width) ∧ Below X.heap.size X w') := fun X hX => refCuts_any _ us newest width X (HU.out X hX) (by omega) hw
  have HWK : Hid (∀ W, Calls Try.prog 11 #[] W fun e w' => e = .returned (.bool true) ∧ Below W.heap.size W w') := wakes_any
  have HFL : Hid (∀ t W, Calls Try.prog 8 #[.int .i64 t, .int .i64 width] W fun e w' => e = .returned (.int .i64 (flF t width)) ∧ w' = W) := fun t W => floor_any t width W hw.2
  have HRF : Hid (∀ t W, Calls Try.prog 9 #[.int .i64 t, .int .i64 width] W fun e w' => e = .returned (.int .i64 (flF t width)) ∧ w' = W) := fun t W => refFloor t width W hw.2
  have HIS : Hid (∀ (X : World) (y u : Value), InAt X y (cutsF us newest width) → InAt X u (cutsF us newest width) → Calls Try.prog 6 #[y, u] X fun e w' => e = .returned (.bool true) ∧ ∃ q, w' = X.drewN q) := fun X y u h1 h2 => ints_same y u _ X h1 h2 (by omega)
  generalize hcs : cutsF us newest width = cs at *
  have hlen : us.length ≤ 100 := by omega
  -- the cut
  have HUU : Hid (∀ X, Below w.heap.size w X → InAt X (.slice a1 us.length c1) us) := HU
  have HIR : Hid (∀ (X : World) (a : Option Addr) (c : Nat), X.ownsRow w.heap.size 3 1 (.slice a us.length c) us.length (inC us) → InAt X (.slice a us.length c) us) := fun X a c hX => RowAt.of_row hX
  by_cases hgt : 100 < ts.length
  · have hu1 : us.length = 100 := by omega
    have hg1 : (100 : Int) < (ts.length : Int) := by omega
    have hg2 : (100 : Int) ≤ (c1 : Int) := by omega
    obtain ⟨b1, o1, e1, -⟩ := InAt.one h 0 (by omega)
    subst e1
    have HU' : Hid (∀ X, Below w.heap.size w X → RowAt X (.slice (some ⟨b1, o1, none⟩) 100 c1) 1 100 (inC us)) := fun X hX => by
      have h9 := HU.out X hX
      unfold InAt at h9
      rw [hu1] at h9
      exact h9
    clear HU
    have HU := HU'
    clear HU'
    rw [hu1] at HRC HIR
    have HCU' : Hid (∀ X, Below w.heap.size w X → InAt X (.slice (some ⟨b1, o1, none⟩) 100 c1) us) := fun X hX => by
      have h9 := HUU.out X hX
      rw [hu1] at h9
      exact h9
    clear h hul hu hc2 hcs
    go_enter Try.func3, Try.ntmps3
    go_wp2_with (first
      | (at_builtin; refine wpList_append_row appIn _ rfl _ _ rfl w.heap.size (.slice (some ⟨w.heap.size, 0, none⟩) 0 0) 0 [] rfl (row_empty w _ _ (Nat.le_refl _)) _ 100 (inC us) rfl (HU.out _ ((Below.refl _ _).alloc (Nat.le_refl _) _)) (inC_one _) (by omega) (by simp) ?_; intro a5 c5 w5 hr5 hg5 _; rw [Nat.zero_add, List.nil_append] at hr5; rw [Nat.zero_add]; have hb5 : Below w.heap.size w w5 := ((Below.refl _ w).alloc (Nat.le_refl _) _).grown hg5 (by simp) (fun i hi => by simp [Value.ownBlock] at hi; omega); have hcu := HCU.out w5 (.slice a5 100 c5) (HIR.out _ _ _ hr5); have HB5 : Hid (Below w.heap.size w w5) := hb5; clear hr5 hg5 hb5)
      | (go_at_call 5; refine hcu.mono ?_; clear hcu; rintro e w6 ⟨a6, c6, rfl, hr6, hb6⟩; have HB6 : Hid (Below w.heap.size w w6) := HB5.out.trans (hb6.mono HB5.out.size); have hs6 : w5.heap.size ≤ w6.heap.size := hb6.size; have HR6 : Hid (w6.ownsRow w5.heap.size 3 1 (.slice a6 cs.length c6) cs.length (inC cs)) := hr6; have hrc := HRC.out w6 HB6.out; clear hr6 hb6)
      | (go_at_call 7; refine hrc.mono ?_; clear hrc; rintro e w7 ⟨u7, rfl, hu7, hb7⟩; have his := HIS.out w7 (.slice a6 cs.length c6) u7 (RowAt.of_row (row_below HR6.out hb7)) hu7; have HB7 : Hid (Below w6.heap.size w6 w7) := hb7; clear hu7 hb7)
      | (go_at_call 6; refine his.mono ?_; clear his; rintro e w8 ⟨rfl, q8, e8⟩; have HB8 : Hid (Below w6.heap.size w6 w8) := (by show Below _ _ _; rw [e8]; exact below_drewN HB7.out q8); clear e8))
    go_loopw [8] (fun i wr => ∃ k : Nat, k ≤ us.length ∧ i = .int .i64 k ∧ Hid (Below w6.heap.size w6 wr)) (fun i _ => us.length - (intOf i).toNat)
    case atStart => exact ⟨0, Nat.zero_le _, rfl, HB8⟩
    case round =>
      obtain ⟨k, hk, rfl, hbel⟩ := hrel
      by_cases hlt : k < us.length
      · obtain ⟨b0, o0, e0, hone⟩ := InAt.one (HUU.out w (Below.refl _ _)) k hlt
        first | subst e0 | cases e0
        have g0 := hone wr (HB6.out.trans (hbel.out.mono HB6.out.size))
        generalize us[k] = t at *
        have f1 := HFL.out t
        have f2 := HRF.out t
        generalize flF t width = x at *
        have hkl : (k : Int) < (us.length : Int) := by omega
        have hkl2 : (k : Int) < (100 : Int) := by omega
        clear hone
        go_wp2_with fail
        go_quiet (first
          | (go_at_call 8; refine Calls.quiet_of_same (f1 _))
          | (go_at_call 9; refine Calls.quiet_of_same (f2 _)))
        go_wp2
        go_roundw
        case rel => exact ⟨k + 1, by omega, by go_num, below_drewN hbel.out _⟩
        case measure => simp [intOf]; omega
      · have hkl : ¬ (k : Int) < (us.length : Int) := by omega
        have hkl2 : ¬ (k : Int) < (100 : Int) := by omega
        have hsp := spoil_any a6 cs.length c6 (inC cs) w5.heap.size wr (row_below HR6.out hbel.out) (by have := hbel.out.size; omega) (by omega)
        have HB9 : Hid (Below w5.heap.size w5 w5) := Below.refl _ _
        have HBR : Hid (Below w.heap.size w wr) := HB6.out.trans (hbel.out.mono HB6.out.size)
        have hs5 := HB5.out.size
        have hcu := HCU.out
        go_wp2_with (first
          | (go_at_call 10; refine hsp.mono ?_; clear hsp; rintro e wa ⟨rfl, hba⟩; have HBA : Hid (Below w.heap.size w wa) := HBR.out.trans (hba.mono hs5); have hca := hcu wa _ (HCU'.out wa HBA.out); clear hcu hba)
          | (go_at_call 5; refine hca.mono ?_; clear hca; rintro e wb ⟨ab, cb9, rfl, hrb, hbb⟩; have HBB : Hid (Below w.heap.size w wb) := HBA.out.trans (hbb.mono HBA.out.size); have hrc := HRC.out wb HBB.out; have HRB : Hid (wb.ownsRow wa.heap.size 3 1 (.slice ab cs.length cb9) cs.length (inC cs)) := hrb; clear hrb hbb)
          | (go_at_call 7; refine hrc.mono ?_; clear hrc; rintro e wc ⟨uc, rfl, huc, hbc⟩; have his := HIS.out wc (.slice ab cs.length cb9) uc (RowAt.of_row (row_below HRB.out hbc)) huc; have HBC : Hid (Below w.heap.size w wc) := HBB.out.trans (hbc.mono HBB.out.size); clear huc hbc)
          | (go_at_call 6; refine his.mono ?_; clear his; rintro e wd ⟨rfl, qd, e8⟩; have HBD : Hid (Below w.heap.size w wd) := (by show Below _ _ _; rw [e8]; exact below_drewN HBC.out qd); clear e8)
          | (go_at_call 11; refine (HWK.out _).mono ?_; clear HWK; rintro e we ⟨rfl, hbe⟩))
        go_ret
        exact ⟨rfl, HBD.out.trans (hbe.mono HBD.out.size)⟩
  · have hg1 : ¬ (100 : Int) < (ts.length : Int) := by omega
    have hue : us = ts := by rw [hu]; exact List.take_of_length_le (by omega)
    subst hue
    clear h hul hu hc2 hcs
    go_enter Try.func3, Try.ntmps3
    go_wp2_with (first
      | (at_builtin; refine wpList_append_row appIn _ rfl _ _ rfl w.heap.size (.slice (some ⟨w.heap.size, 0, none⟩) 0 0) 0 [] rfl (row_empty w _ _ (Nat.le_refl _)) _ us.length (inC us) rfl (HU.out _ ((Below.refl _ _).alloc (Nat.le_refl _) _)) (inC_one _) (by omega) (by simp) ?_; intro a5 c5 w5 hr5 hg5 _; rw [Nat.zero_add, List.nil_append] at hr5; rw [Nat.zero_add]; have hb5 : Below w.heap.size w w5 := ((Below.refl _ w).alloc (Nat.le_refl _) _).grown hg5 (by simp) (fun i hi => by simp [Value.ownBlock] at hi; omega); have hcu := HCU.out w5 (.slice a5 us.length c5) (HIR.out _ _ _ hr5); have HB5 : Hid (Below w.heap.size w w5) := hb5; clear hr5 hg5 hb5)
      | (go_at_call 5; refine hcu.mono ?_; clear hcu; rintro e w6 ⟨a6, c6, rfl, hr6, hb6⟩; have HB6 : Hid (Below w.heap.size w w6) := HB5.out.trans (hb6.mono HB5.out.size); have hs6 : w5.heap.size ≤ w6.heap.size := hb6.size; have HR6 : Hid (w6.ownsRow w5.heap.size 3 1 (.slice a6 cs.length c6) cs.length (inC cs)) := hr6; have hrc := HRC.out w6 HB6.out; clear hr6 hb6)
      | (go_at_call 7; refine hrc.mono ?_; clear hrc; rintro e w7 ⟨u7, rfl, hu7, hb7⟩; have his := HIS.out w7 (.slice a6 cs.length c6) u7 (RowAt.of_row (row_below HR6.out hb7)) hu7; have HB7 : Hid (Below w6.heap.size w6 w7) := hb7; clear hu7 hb7)
      | (go_at_call 6; refine his.mono ?_; clear his; rintro e w8 ⟨rfl, q8, e8⟩; have HB8 : Hid (Below w6.heap.size w6 w8) := (by show Below _ _ _; rw [e8]; exact below_drewN HB7.out q8); clear e8))
    go_loopw [8] (fun i wr => ∃ k : Nat, k ≤ us.length ∧ i = .int .i64 k ∧ Hid (Below w6.heap.size w6 wr)) (fun i _ => us.length - (intOf i).toNat)
    case atStart => exact ⟨0, Nat.zero_le _, rfl, HB8⟩
    case round =>
      obtain ⟨k, hk, rfl, hbel⟩ := hrel
      by_cases hlt : k < us.length
      · obtain ⟨b0, o0, e0, hone⟩ := InAt.one (HUU.out w (Below.refl _ _)) k hlt
        first | subst e0 | cases e0
        have g0 := hone wr (HB6.out.trans (hbel.out.mono HB6.out.size))
        generalize us[k] = t at *
        have f1 := HFL.out t
        have f2 := HRF.out t
        generalize flF t width = x at *
        have hkl : (k : Int) < (us.length : Int) := by omega
        have hkl2 : (k : Int) < (us.length : Int) := by omega
        clear hone
        go_wp2_with fail
        go_quiet (first
          | (go_at_call 8; refine Calls.quiet_of_same (f1 _))
          | (go_at_call 9; refine Calls.quiet_of_same (f2 _)))
        go_wp2
        go_roundw
        case rel => exact ⟨k + 1, by omega, by go_num, below_drewN hbel.out _⟩
        case measure => simp [intOf]; omega
      · have hkl : ¬ (k : Int) < (us.length : Int) := by omega
        have hkl2 : ¬ (k : Int) < (us.length : Int) := by omega
        have hsp := spoil_any a6 cs.length c6 (inC cs) w5.heap.size wr (row_below HR6.out hbel.out) (by have := hbel.out.size; omega) (by omega)
        have HB9 : Hid (Below w5.heap.size w5 w5) := Below.refl _ _
        have HBR : Hid (Below w.heap.size w wr) := HB6.out.trans (hbel.out.mono HB6.out.size)
        have hs5 := HB5.out.size
        have hcu := HCU.out
        go_wp2_with (first
          | (go_at_call 10; refine hsp.mono ?_; clear hsp; rintro e wa ⟨rfl, hba⟩; have HBA : Hid (Below w.heap.size w wa) := HBR.out.trans (hba.mono hs5); have hca := hcu wa _ (HUU.out wa HBA.out); clear hcu hba)
          | (go_at_call 5; refine hca.mono ?_; clear hca; rintro e wb ⟨ab, cb9, rfl, hrb, hbb⟩; have HBB : Hid (Below w.heap.size w wb) := HBA.out.trans (hbb.mono HBA.out.size); have hrc := HRC.out wb HBB.out; have HRB : Hid (wb.ownsRow wa.heap.size 3 1 (.slice ab cs.length cb9) cs.length (inC cs)) := hrb; clear hrb hbb)
          | (go_at_call 7; refine hrc.mono ?_; clear hrc; rintro e wc ⟨uc, rfl, huc, hbc⟩; have his := HIS.out wc (.slice ab cs.length cb9) uc (RowAt.of_row (row_below HRB.out hbc)) huc; have HBC : Hid (Below w.heap.size w wc) := HBB.out.trans (hbc.mono HBB.out.size); clear huc hbc)
          | (go_at_call 6; refine his.mono ?_; clear his; rintro e wd ⟨rfl, qd, e8⟩; have HBD : Hid (Below w.heap.size w wd) := (by show Below _ _ _; rw [e8]; exact below_drewN HBC.out qd); clear e8)
          | (go_at_call 11; refine (HWK.out _).mono ?_; clear HWK; rintro e we ⟨rfl, hbe⟩))
        go_ret
        exact ⟨rfl, HBD.out.trans (hbe.mono HBD.out.size)⟩

end Go.Proofs.Ytdmkfogohacaiaa
