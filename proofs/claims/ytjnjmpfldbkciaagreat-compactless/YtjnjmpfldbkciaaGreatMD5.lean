/- slices.DeleteFunc of pieces, walked. -/
import Derived.Test.YtjnjmpfldbkciaaGreatMD3
namespace Go.Proofs.YtjnjmpfldbkciaaGreat
open Go.RowKit Go.Maps Go.Sort

theorem DelSt.start {l : List Gn} {k : Nat} (hk : k < l.length) (hf : fineG l[k] = false) (ha : ∀ g ∈ l.take k, fineG g = true) : DelSt l l k (k + 1) := by
  refine ⟨rfl, by omega, by omega, ?_, rfl⟩
  rw [List.take_succ_eq_append_getElem hk, List.filter_append, List.filter_eq_self.2 ha]
  simp [hf]
theorem row_at3 {w : World} {base n c g : Nat} {R : List Gn} (h : w.ownsRow base 39 3 (.slice (some ⟨g, 0, none⟩) n c) n (gnC R)) (hn : R.length = n) {j : Nat} {x : Gn} (hx : R[j]? = some x) : w.cell? ⟨g, j * 3, none⟩ = some x.v ∧ w.cell? ⟨g, j * 3 + 1, none⟩ = some (.int .i64 x.lo) ∧ w.cell? ⟨g, j * 3 + 2, none⟩ = some (.int .i64 x.hi) := by
  have hj := (List.getElem?_eq_some_iff.1 hx).1
  obtain ⟨b, o, e, h1⟩ := row3n (RowAt.of_row h) hn j (by omega)
  cases e
  have h2 := h1 w (Below.refl _ _)
  have e2 : R[j]'(by omega) = x := by
    have := hx
    rw [List.getElem?_eq_getElem hj] at this
    simpa using this
  rw [e2] at h2
  simpa using h2

set_option maxRecDepth 100000 in
set_option maxHeartbeats 4000000 in
theorem delete_any (a : Option Addr) (n c : Nat) (l : List Gn) (w : World) (base : Nat) (h : w.ownsRow base 39 3 (.slice a n c) n (gnC l)) (hn : l.length = n) (hg : ∀ g ∈ l, ∃ a n c, g.v = .slice a n c) (hl : n ≤ 1000) (hbase : base ≤ w.heap.size) :
    Calls Tryz.prog 17 #[.slice a n c, .func (.func 19) #[] #[]] w fun e w' => ∃ m, e = .returned (.slice a m c) ∧ (m = (l.filter fineG).length ∧ w'.ownsRow base 39 3 (.slice a m c) m (gnC (l.filter fineG)) ∧ Below base w w') := by
  have hix := indexBad_any a n c l w (RowAt.of_row h) hn hg hl
  have heC : ∀ args w, (callFunc 19 args).run Tryz.prog w = .ok (.enter 19 args) w := enters_of Tryz.func19 (by kernel_rfl) rfl
  have HH : Hid (w.ownsRow base 39 3 (.slice a n c) n (gnC l)) := h
  have HN : Hid (l.length = n) := hn
  have HG : Hid (∀ g ∈ l, ∃ a n c, g.v = .slice a n c) := hg
  have hcn : n ≤ c := by
    rcases h.2 with ⟨e, h0⟩ | ⟨_, _, _, e, _, _, h1, _⟩
    · omega
    · cases e
      exact h1
  have hcm : c ≤ 9223372036854775807 := by
    rcases h.2 with ⟨e, h0⟩ | ⟨_, _, _, e, _, _, h1, h2, _⟩
    · cases e
      omega
    · cases e
      exact h2
  clear h hn hg
  go_enter Tryz.func17, Tryz.ntmps17
  go_upto_region 2 with (go_at_call 36; refine hix.mono ?_; rintro e w1 ⟨⟨i, rfl, hor⟩, hg1⟩)
  rcases hor with ⟨rfl, hall⟩ | ⟨k, rfl, hk, hbad, hall⟩
  · have HF : Hid (l.filter fineG = l) := List.filter_eq_self.2 hall
    have HG1 : Hid (GrW w w1) := hg1
    clear hall hg1 hix
    go_wp2
    go_ret
    refine ⟨n, rfl, ?_, ?_, ?_⟩
    · rw [HF.out, HN.out]
    · rw [HF.out]; exact HG1.out.row HH.out
    · exact HG1.out.below.mono hbase
  · have HD : Hid (DelSt l l k (k + 1)) := DelSt.start hk hbad hall
    have hkn : k < n := by have := HN.out; omega
    obtain ⟨g, rfl⟩ : ∃ g, a = some ⟨g, 0, none⟩ := by
      rcases HH.out.2 with ⟨e, h0⟩ | ⟨og, cap, cur, e, _⟩
      · omega
      · cases e
        exact ⟨og, rfl⟩
    have HR1 : Hid (w1.ownsRow base 39 3 (.slice (some ⟨g, 0, none⟩) n c) n (gnC l)) := hg1.row HH.out
    have HB1 : Hid (Below base w w1) := hg1.below.mono hbase
    have hk1 : ((k : Int) == -1) = false := by simp
    clear hbad hall hk hix hg1 HH
    go_wp2
    go_loopw [5, 6, 7] (fun x y _ wr => ∃ (i j : Nat) (R : List Gn), i ≤ j ∧ j ≤ n ∧ x = .int .i64 i ∧ y = .int .i64 j ∧ Hid (DelSt l R i j) ∧ Hid (wr.ownsRow base 39 3 (.slice (some ⟨g, 0, none⟩) n c) n (gnC R)) ∧ Hid (Below base w wr)) (fun _ y _ _ => n - (intOf y).toNat)
    case atStart => exact ⟨k, k + 1, l, by omega, by omega, rfl, by go_num, HD, HR1, HB1⟩
    case round =>
      obtain ⟨i, j, R, hij, hjn, rfl, rfl, hD, hR, hb⟩ := hrel
      have hRn : Hid (R.length = n) := hD.out.len.trans HN.out
      have hil : i < n := by have := hD.out.ij; omega
      by_cases hlt : j < n
      · have hjl : j < l.length := by have := HN.out; omega
        obtain ⟨za, zn, zc, hz⟩ := HG.out (l[j]'hjl) (List.getElem_mem _)
        have hat := row_at3 hR.out hRn.out (hD.out.at hjl)
        obtain ⟨G, hGe⟩ : ∃ G, G = l[j]'hjl := ⟨_, rfl⟩
        rw [← hGe] at hz hat
        have HGE : Hid (G = l[j]'hjl) := hGe
        have hbad := fun W => bad_any G za zn zc hz W
        obtain ⟨gv, gls, glo, ghi⟩ := G
        dsimp only at hz hat hbad
        subst hz
        obtain ⟨g0, g1, g2⟩ := hat
        have hkl : (j : Int) < (n : Int) := by omega
        have hil2 : (i : Int) < (n : Int) := by omega
        have hbt := hbad (wr.alloc (.cells #[.slice za zn zc, .int .i64 glo, .int .i64 ghi] 39))
        have HW : Hid (∀ W, GrW (wr.alloc (.cells #[.slice za zn zc, .int .i64 glo, .int .i64 ghi] 39)) W → GrW wr W) := fun W hW => ((GrW.refl wr).alloc _).trans hW
        have HBX : Hid (∀ W, GrW (wr.alloc (.cells #[.slice za zn zc, .int .i64 glo, .int .i64 ghi] 39)) W → W.heap[wr.heap.size]? = some (.cells #[.slice za zn zc, .int .i64 glo, .int .i64 ghi] 39)) := fun W hW => (hW.below.block _ (by simp)).trans (heap_alloc_new wr _)
        have HOW : Hid (∀ W, GrW wr W → W.ownsRow base 39 3 (.slice (some ⟨g, 0, none⟩) n c) n (gnC R) ∧ Below base w W) := fun W hW => ⟨hW.row hR.out, hb.out.trans (hW.below.mono (by have := hb.out.size; omega))⟩
        clear hbad hGe hR hb
        generalize hfr : fineG ⟨.slice za zn zc, gls, glo, ghi⟩ = fr at *
        cases fr
        · have HD2 : Hid (DelSt l R i (j + 1)) := hD.out.skip hjl (by rw [← HGE.out]; exact hfr)
          simp only [Bool.not_false] at hbt
          clear hD hfr HGE
          go_wp2_with (go_at_fn 19; refine hbt.mono ?_; rintro e w2 ⟨rfl, hg2⟩; obtain ⟨hr2, hb2⟩ := HOW.out w2 (HW.out w2 hg2))
          go_roundw
          case rel => exact ⟨i, j + 1, R, by omega, by omega, rfl, by go_num, HD2, hr2, hb2⟩
          case measure => simp [intOf]; omega
        · have HD2 : Hid (DelSt l (R.set i ⟨.slice za zn zc, gls, glo, ghi⟩) (i + 1) (j + 1)) := by rw [HGE.out]; exact hD.out.keep hjl (by rw [← HGE.out]; exact hfr)
          simp only [Bool.not_true] at hbt
          clear hD hfr HGE
          have HFIN : Hid (∀ W : World, W.ownsRow base 39 3 (.slice (some ⟨g, 0, none⟩) n c) n (gnC R) ∧ Below base w W → (((W.setCell ⟨g, i * 3, none⟩ (.slice za zn zc)).setCell ⟨g, i * 3 + 1, none⟩ (.int .i64 glo)).setCell ⟨g, i * 3 + 2, none⟩ (.int .i64 ghi)).ownsRow base 39 3 (.slice (some ⟨g, 0, none⟩) n c) n (gnC (R.set i ⟨.slice za zn zc, gls, glo, ghi⟩)) ∧ Below base w (((W.setCell ⟨g, i * 3, none⟩ (.slice za zn zc)).setCell ⟨g, i * 3 + 1, none⟩ (.int .i64 glo)).setCell ⟨g, i * 3 + 2, none⟩ (.int .i64 ghi))) := fun W h1 => by
            have h2 := ownsRow_set (ownsRow_set (ownsRow_set h1.1 (g := g) rfl (i := i * 3) (.slice za zn zc)) (g := g) rfl (i := i * 3 + 1) (.int .i64 glo)) (g := g) rfl (i := i * 3 + 2) (.int .i64 ghi)
            rw [gnC_set R i (by have := hRn.out; omega) ⟨.slice za zn zc, gls, glo, ghi⟩] at h2
            refine ⟨h2, h1.2.trans (Kept.toBelow (O := fun k => k = g) (kept_setCells g [.slice za zn zc, .int .i64 glo, .int .i64 ghi] (i * 3) W) (Nat.le_trans hbase h1.2.size) (fun k hk => ?_))⟩
            subst hk
            exact (h1.1.lt k rfl).1
          have HCL : Hid (∀ W : World, W.ownsRow base 39 3 (.slice (some ⟨g, 0, none⟩) n c) n (gnC R) → ((∃ u, W.cell? ⟨g, i * 3, none⟩ = some u) ∧ W.frozen? ⟨g, i * 3, none⟩ = false) ∧ ((∃ u, W.cell? ⟨g, i * 3 + 1, none⟩ = some u) ∧ W.frozen? ⟨g, i * 3 + 1, none⟩ = false) ∧ ((∃ u, W.cell? ⟨g, i * 3 + 2, none⟩ = some u) ∧ W.frozen? ⟨g, i * 3 + 2, none⟩ = false)) := fun W h1 => ⟨row_cell h1 (by omega), row_cell h1 (by omega), row_cell h1 (by omega)⟩
          go_wp2_with (go_at_fn 19; refine hbt.mono ?_; rintro e w2 ⟨rfl, hg2⟩; have hrb2 := HOW.out w2 (HW.out w2 hg2); have hbx2 := HBX.out w2 hg2; have k0 := cell_of_heap (i := 0) hbx2; have k1 := cell_of_heap (i := 1) hbx2; have k2 := cell_of_heap (i := 2) hbx2; obtain ⟨⟨⟨u0, f0⟩, f1⟩, ⟨⟨u1, f2⟩, f3⟩, ⟨⟨u2, f4⟩, f5⟩⟩ := HCL.out w2 hrb2.1; have HRB : Hid _ := hrb2; clear hrb2 hbx2 hg2)
          go_roundw
          case rel =>
            have h9 := HFIN.out w2 HRB.out
            exact ⟨i + 1, j + 1, _, by omega, by omega, by go_num, by go_num, HD2, h9.1, h9.2⟩
          case measure => simp [intOf]; omega
      · have hjn2 : j = n := by omega
        have HFI : Hid (R.take i = l.filter fineG ∧ i = (l.filter fineG).length) := by
          have h1 := hD.out.first
          rw [List.take_of_length_le (show l.length ≤ j by have := HN.out; omega)] at h1
          refine ⟨h1, ?_⟩
          rw [← h1, List.length_take]
          have := hRn.out
          omega
        have HCR : Hid (∃ vs : List Value, (Builtin.clear_ #[23] 0 #[.slice (some ⟨g, i * 3, none⟩) (n - i) (c - i)]).run Tryz.prog wr = .ok (.tuple #[]) (wr.setCells g (i * 3) vs)) := by
          refine run_clear_gn wr _ g (i * 3) (n - i) (c - i) (by omega) (fun j hj => ?_) (fun j hj => ?_)
          · obtain ⟨⟨u, hu⟩, -⟩ := row_cell hR.out (j := i * 3 + j) (by omega)
            rw [hu]
            rfl
          · exact (row_cell hR.out (j := i * 3 + j) (by omega)).2
        have HEN : Hid (∀ vs, (wr.setCells g (i * 3) vs).ownsRow base 39 3 (.slice (some ⟨g, 0, none⟩) i c) i (gnC (l.filter fineG)) ∧ Below base w (wr.setCells g (i * 3) vs)) := fun vs => by
          obtain ⟨ys, h1, h2⟩ := ownsRow_clear (g := g) rfl vs (i * 3) wr _ hR.out
          have h3 := ownsRow_prefix h1 (show i ≤ n by omega)
          rw [h2, gnC_take R i (by have := hRn.out; omega), HFI.out.1] at h3
          refine ⟨h3, hb.out.trans (Kept.toBelow (kept_setCells g vs (i * 3) wr) (by have := hb.out.size; omega) (fun k hk => ?_))⟩
          subst hk
          exact (hR.out.lt k rfl).1
        have hi1 : (i : Int) ≤ (n : Int) := by omega
        have hi2 : (i : Int) ≤ (c : Int) := by omega
        have hi3 : (n : Int) ≤ (c : Int) := by omega
        have hi4 : ¬ (c = i) := by omega
        have hi5 : ¬ (j : Int) < (n : Int) := by omega
        clear hD hR hb
        obtain ⟨vs, hvs⟩ := HCR.out
        clear HCR
        go_wp2
        go_ret
        exact ⟨i, rfl, HFI.out.2, (HEN.out vs).1, (HEN.out vs).2⟩

end Go.Proofs.YtjnjmpfldbkciaaGreat
