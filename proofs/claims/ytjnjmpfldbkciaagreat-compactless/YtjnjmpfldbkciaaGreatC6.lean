/- Alike lists are told to be alike. -/
import Derived.Test.YtjnjmpfldbkciaaGreatC3
import Derived.Deep.RegionHeld3
namespace Go.Proofs.YtjnjmpfldbkciaaGreat
open Go.RowKit Go.Maps

theorem floatbits_run (n : Nat) (W : World) : (callFunc 69 #[.float .f64 n]).run Tryz.prog W = .ok (.value (.int .u64 n)) W := by kernel_rfl
set_option maxRecDepth 100000 in
set_option maxHeartbeats 1000000 in
theorem keepBits_any (x : Nat) (w : World) :
    Calls Tryz.prog 42 #[.float .f64 x, .float .f64 x] w fun e w' => e = .returned (.bool true) ∧ w' = w := by
  have h1 := floatbits_run x w
  go_enter Tryz.func42, Tryz.ntmps42
  go_wp2
  go_ret
  exact ⟨by simp, rfl⟩

set_option maxRecDepth 100000 in
set_option maxHeartbeats 1000000 in
theorem samples_same (v u : Value) (l : List Sm) (w : World) (h1 : SmAt w v l) (h2 : SmAt w u l) (hl : l.length ≤ 1000) :
    Calls Tryz.prog 28 #[v, u] w fun e w' => e = .returned (.bool true) ∧ Below w.heap.size w w' := by
  obtain ⟨a, c, rfl, -⟩ := id h1
  obtain ⟨a2, c2, rfl, -⟩ := id h2
  have H1 : Hid (SmAt w (.slice a l.length c) l) := h1
  have H2 : Hid (SmAt w (.slice a2 l.length c2) l) := h2
  clear h1 h2
  go_enter Tryz.func28, Tryz.ntmps28
  go_wp2
  go_loopw [5] (fun i wr => ∃ k : Nat, k ≤ l.length ∧ i = .int .i64 k ∧ Hid (Below w.heap.size w wr)) (fun i _ => l.length - (intOf i).toNat)
  case atStart => exact ⟨0, Nat.zero_le _, rfl, Below.refl _ _⟩
  case round =>
    obtain ⟨k, hk, rfl, hb⟩ := hrel
    by_cases hlt : k < l.length
    · obtain ⟨b, o, rfl, hone⟩ := H1.out.one k hlt
      obtain ⟨b2, o2, rfl, hone2⟩ := H2.out.one k hlt
      obtain ⟨g0, g1⟩ := hone wr hb.out
      obtain ⟨f0, f1⟩ := hone2 wr hb.out
      clear hone hone2
      generalize l[k].1 = A at *
      generalize l[k].2 = B at *
      have HKB : Hid (∀ W, Calls Tryz.prog 42 #[.float .f64 B, .float .f64 B] W fun e w' => e = .returned (.bool true) ∧ w' = W) := fun W => keepBits_any B W
      have hki : (k : Int) < (l.length : Int) := by omega
      go_wp2_with fail
      go_quiet (first | (go_at_call 42; exact Calls.quiet_of_same (HKB.out _)))
      go_wp2
      go_roundw
      case rel => exact ⟨k + 1, by omega, by go_num, below_drewN hb.out nq⟩
      case measure => simp [intOf]; omega
    · have HBB : Hid (Below w.heap.size w wr) := hb
      clear hb
      go_wp2
      go_ret
      exact ⟨rfl, HBB.out⟩

theorem lbFields : Tryz.prog.underlying 53 = some (.struct (Tryz.prog.fieldsOf 53)) := by kernel_rfl
theorem lbHeld : Tryz.prog.stoodInHeld 53 = false := by kernel_rfl
theorem lbGuard : Tryz.prog.eqGuardType Tryz.prog.depth 53 = false := by kernel_rfl
theorem eqRun (a b : ByteArray) (w : World) : (Op.equalIn 10000 53 (.agg #[.string a, .string b]) (.agg #[.string a, .string b])).run Tryz.prog w = .ok true w := by
  have u9 := Tryz.underlying9
  have a9 := Tryz.isAgg9
  have z9 := Tryz.sizeOf9
  rw [show (10000 : Nat) = 9999 + 1 from rfl, run_equalIn_agg w 9999 53 _ _ lbFields lbHeld]
  simp only [Program.fieldsOf, Tryz.underlying53]
  go_simp

set_option maxRecDepth 100000 in
set_option maxHeartbeats 1500000 in
theorem labels_same (v u : Value) (ls : List Lb) (w : World) (h : LbAt w v ls) (hm : LbAt w u ls) (hl : ls.length ≤ 1000) :
    Calls Tryz.prog 27 #[v, u] w fun e w' => e = .returned (.bool true) ∧ Below w.heap.size w w' := by
  obtain ⟨a, c, rfl, -⟩ := id h
  obtain ⟨a2, c2, rfl, -⟩ := id hm
  have HC : Hid (LbAt w (.slice a ls.length c) ls) := h
  have HM : Hid (LbAt w (.slice a2 ls.length c2) ls) := hm
  clear h hm
  go_enter Tryz.func27, Tryz.ntmps27
  go_wp2
  go_loopw [5] (fun i wr => ∃ k : Nat, k ≤ ls.length ∧ i = .int .i64 k ∧ Hid (Below w.heap.size w wr)) (fun i _ => ls.length - (intOf i).toNat)
  case atStart => exact ⟨0, Nat.zero_le _, rfl, Below.refl _ _⟩
  case round =>
    obtain ⟨k, hk, rfl, hb⟩ := hrel
    by_cases hlt : k < ls.length
    · obtain ⟨b, o, rfl, hone⟩ := HC.out.one k hlt
      obtain ⟨b2, o2, rfl, hone2⟩ := HM.out.one k hlt
      obtain ⟨g0, g1⟩ := hone wr hb.out
      obtain ⟨e0, e1⟩ := hone2 wr hb.out
      clear hone hone2
      have hkl : (k : Int) < (ls.length : Int) := by omega
      generalize ls[k].1 = x1 at *
      generalize ls[k].2 = x2 at *
      have q3 := lbGuard
      have hrun := fun W => eqRun x1 x2 W
      go_wp2
      go_quiet (fail)
      go_wp2
      go_roundw
      case rel => exact ⟨k + 1, by omega, by go_num, below_drewN hb.out nq⟩
      case measure => simp [intOf]; omega
    · have HBB : Hid (Below w.heap.size w wr) := hb
      clear hb
      go_wp2
      go_ret
      exact ⟨rfl, HBB.out⟩

set_option maxRecDepth 100000 in
set_option maxHeartbeats 4000000 in
theorem series_same (v u : Value) (l m : List Sr) (w : World) (h : SrAt w v l) (hm : SrAt w u m) (he : l.map Sr.p = m.map Sr.p) (hl : l.length ≤ 1000) :
    Calls Tryz.prog 8 #[v, u] w fun e w' => e = .returned (.bool true) ∧ Below w.heap.size w w' := by
  obtain ⟨a, c, rfl, -⟩ := id h.1
  obtain ⟨a2, c2, rfl, -⟩ := id hm.1
  have hlm : m.length = l.length := by simpa using (congrArg List.length he).symm
  have HP : Hid (∀ k (h1 : k < l.length) (h2 : k < m.length), l[k].ls = m[k].ls ∧ l[k].ss = m[k].ss) := fun k h1 h2 => by
    have h3 : (l.map Sr.p)[k]? = (m.map Sr.p)[k]? := by rw [he]
    simp [h1, h2, Sr.p] at h3
    exact h3
  have HC : Hid (SrAt w (.slice a l.length c) l) := h
  have HM : Hid (SrAt w (.slice a2 m.length c2) m) := hm
  have HLM : Hid (m.length = l.length) := hlm
  rw [hlm]
  clear h hm he hlm
  go_enter Tryz.func8, Tryz.ntmps8
  go_wp2
  go_loopw [5] (fun i wr => ∃ k : Nat, k ≤ l.length ∧ i = .int .i64 k ∧ Hid (Below w.heap.size w wr)) (fun i _ => l.length - (intOf i).toNat)
  case atStart => exact ⟨0, Nat.zero_le _, rfl, Below.refl _ _⟩
  case round =>
    obtain ⟨k, hk, rfl, hb⟩ := hrel
    by_cases hlt : k < l.length
    · have hlt2 : k < m.length := by rw [HLM.out]; exact hlt
      obtain ⟨b, o, rfl, hone⟩ := HC.out.one k hlt
      obtain ⟨b2, o2, rfl, hone2⟩ := HM.out.one k hlt2
      have s1 := HC.out.2 l[k] (List.getElem_mem hlt)
      have s2 := HM.out.2 m[k] (List.getElem_mem hlt2)
      obtain ⟨p1, p2⟩ := HP.out k hlt hlt2
      generalize l[k] = x at *
      generalize m[k] = y at *
      obtain ⟨xl, xls, xs, xss⟩ := x
      obtain ⟨yl, yls, ys, yss⟩ := y
      dsimp only at p1 p2 hone hone2
      subst p1 p2
      obtain ⟨xa, xc, hxa, -⟩ := id s1.lab
      obtain ⟨xa', xc', hxa', -⟩ := id s1.smp
      obtain ⟨ya, yc, hya, -⟩ := id s2.lab
      obtain ⟨ya', yc', hya', -⟩ := id s2.smp
      dsimp only at hxa hxa' hya hya'
      subst hxa hxa' hya hya'
      have HL : Hid (∀ W, Below w.heap.size w W → Calls Tryz.prog 27 #[.slice xa xls.length xc, .slice ya xls.length yc] W fun e w' => e = .returned (.bool true) ∧ Below w.heap.size w w') := fun W hW => (labels_same _ _ xls W (s1.lab.below hW) (s2.lab.below hW) (by have := s1.few; dsimp only at this; omega)).mono fun e w' ⟨h1, h2⟩ => ⟨h1, hW.trans (h2.mono hW.size)⟩
      have HS : Hid (∀ W, Below w.heap.size w W → Calls Tryz.prog 28 #[.slice xa' xss.length xc', .slice ya' xss.length yc'] W fun e w' => e = .returned (.bool true) ∧ Below w.heap.size w w') := fun W hW => (samples_same _ _ xss W (s1.smp.below hW) (s2.smp.below hW) (by have := s1.fews; dsimp only at this; omega)).mono fun e w' ⟨h1, h2⟩ => ⟨h1, hW.trans (h2.mono hW.size)⟩
      have HO : Hid (∀ W, Below w.heap.size w W → W.cell? ⟨b, o + k * 2, none⟩ = some (.slice xa xls.length xc) ∧ W.cell? ⟨b, o + k * 2 + 1, none⟩ = some (.slice xa' xss.length xc') ∧ W.cell? ⟨b2, o2 + k * 2, none⟩ = some (.slice ya xls.length yc) ∧ W.cell? ⟨b2, o2 + k * 2 + 1, none⟩ = some (.slice ya' xss.length yc') ∧ Below w.heap.size w W) := fun W hW => ⟨(hone W hW).1, (hone W hW).2, (hone2 W hW).1, (hone2 W hW).2, hW⟩
      obtain ⟨g0, g1, g2, g3, hbr⟩ := HO.out wr hb.out
      have hd : Below w.heap.size w wr.drew := hb.out.drew
      have HDR : Hid (Below w.heap.size w wr.drew) := hd
      have hkl : (k : Int) < (l.length : Int) := by omega
      clear hone hone2 s1 s2 HC HM HP HLM hlt2
      go_wp2_with fail
      go_region_held3 (fun w' => w'.cell? ⟨b, o + k * 2, none⟩ = some (.slice xa xls.length xc) ∧ w'.cell? ⟨b, o + k * 2 + 1, none⟩ = some (.slice xa' xss.length xc') ∧ w'.cell? ⟨b2, o2 + k * 2, none⟩ = some (.slice ya xls.length yc) ∧ w'.cell? ⟨b2, o2 + k * 2 + 1, none⟩ = some (.slice ya' xss.length yc') ∧ Below w.heap.size w w')
        (first | (refine HO.out _ ?_; exact hd) | (refine HO.out _ ?_; assumption))
        (first
          | (go_at_call 27; refine (HL.out _ HDR.out).mono ?_; rintro e w2 ⟨rfl, hb2⟩)
          | (go_at_call 28; refine (HS.out _ hb2).mono ?_; rintro e w3 ⟨rfl, hb3⟩))
      all_goals
        go_wp2_with fail
        go_roundw
        case rel => exact ⟨k + 1, by omega, by go_num, hb3⟩
        case measure => simp [intOf]; omega
    · have HBB : Hid (Below w.heap.size w wr) := hb
      clear hb
      go_wp2
      go_ret
      exact ⟨rfl, HBB.out⟩

set_option maxRecDepth 100000 in
set_option maxHeartbeats 4000000 in
theorem gones_same (v u : Value) (l m : List Gn) (w : World) (h : GnAt w v l) (hm : GnAt w u m) (he : l.map Gn.p = m.map Gn.p) (hl : l.length ≤ 1000) :
    Calls Tryz.prog 10 #[v, u] w fun e w' => e = .returned (.bool true) ∧ Below w.heap.size w w' := by
  obtain ⟨a, c, rfl, -⟩ := id h.1
  obtain ⟨a2, c2, rfl, -⟩ := id hm.1
  have hlm : m.length = l.length := by simpa using (congrArg List.length he).symm
  have HP : Hid (∀ k (h1 : k < l.length) (h2 : k < m.length), l[k].ls = m[k].ls ∧ l[k].lo = m[k].lo ∧ l[k].hi = m[k].hi) := fun k h1 h2 => by
    have h3 : (l.map Gn.p)[k]? = (m.map Gn.p)[k]? := by rw [he]
    simp [h1, h2, Gn.p] at h3
    exact h3
  have HC : Hid (GnAt w (.slice a l.length c) l) := h
  have HM : Hid (GnAt w (.slice a2 m.length c2) m) := hm
  have HLM : Hid (m.length = l.length) := hlm
  rw [hlm]
  clear h hm he hlm
  go_enter Tryz.func10, Tryz.ntmps10
  go_wp2
  go_loopw [5] (fun i wr => ∃ k : Nat, k ≤ l.length ∧ i = .int .i64 k ∧ Hid (Below w.heap.size w wr)) (fun i _ => l.length - (intOf i).toNat)
  case atStart => exact ⟨0, Nat.zero_le _, rfl, Below.refl _ _⟩
  case round =>
    obtain ⟨k, hk, rfl, hb⟩ := hrel
    by_cases hlt : k < l.length
    · have hlt2 : k < m.length := by rw [HLM.out]; exact hlt
      obtain ⟨b, o, rfl, hone⟩ := HC.out.one k hlt
      obtain ⟨b2, o2, rfl, hone2⟩ := HM.out.one k hlt2
      have s1 := HC.out.2 l[k] (List.getElem_mem hlt)
      have s2 := HM.out.2 m[k] (List.getElem_mem hlt2)
      obtain ⟨p1, p2, p3⟩ := HP.out k hlt hlt2
      generalize l[k] = x at *
      generalize m[k] = y at *
      obtain ⟨xl, xls, xlo, xhi⟩ := x
      obtain ⟨yl, yls, ylo, yhi⟩ := y
      dsimp only at p1 p2 p3 hone hone2
      subst p1 p2 p3
      obtain ⟨xa, xc, hxa, -⟩ := id s1.lab
      obtain ⟨ya, yc, hya, -⟩ := id s2.lab
      dsimp only at hxa hya
      subst hxa hya
      have HL : Hid (∀ W, Below w.heap.size w W → Calls Tryz.prog 27 #[.slice xa xls.length xc, .slice ya xls.length yc] W fun e w' => e = .returned (.bool true) ∧ Below w.heap.size w w') := fun W hW => (labels_same _ _ xls W (s1.lab.below hW) (s2.lab.below hW) (by have := s1.few; dsimp only at this; omega)).mono fun e w' ⟨h1, h2⟩ => ⟨h1, hW.trans (h2.mono hW.size)⟩
      have HO : Hid (∀ W, Below w.heap.size w W → W.cell? ⟨b, o + k * 3, none⟩ = some (.slice xa xls.length xc) ∧ W.cell? ⟨b, o + k * 3 + 1, none⟩ = some (.int .i64 xlo) ∧ W.cell? ⟨b, o + k * 3 + 2, none⟩ = some (.int .i64 xhi) ∧ W.cell? ⟨b2, o2 + k * 3, none⟩ = some (.slice ya xls.length yc) ∧ W.cell? ⟨b2, o2 + k * 3 + 1, none⟩ = some (.int .i64 xlo) ∧ W.cell? ⟨b2, o2 + k * 3 + 2, none⟩ = some (.int .i64 xhi) ∧ Below w.heap.size w W) := fun W hW => ⟨(hone W hW).1, (hone W hW).2.1, (hone W hW).2.2, (hone2 W hW).1, (hone2 W hW).2.1, (hone2 W hW).2.2, hW⟩
      obtain ⟨g0, g1, g2, g3, g4, g5, hbr⟩ := HO.out wr hb.out
      have hd : Below w.heap.size w wr.drew := hb.out.drew
      have HDR : Hid (Below w.heap.size w wr.drew) := hd
      have hkl : (k : Int) < (l.length : Int) := by omega
      clear hone hone2 s1 s2 HC HM HP HLM hlt2
      go_wp2_with fail
      go_region_held3 (fun w' => w'.cell? ⟨b, o + k * 3, none⟩ = some (.slice xa xls.length xc) ∧ w'.cell? ⟨b, o + k * 3 + 1, none⟩ = some (.int .i64 xlo) ∧ w'.cell? ⟨b, o + k * 3 + 2, none⟩ = some (.int .i64 xhi) ∧ w'.cell? ⟨b2, o2 + k * 3, none⟩ = some (.slice ya xls.length yc) ∧ w'.cell? ⟨b2, o2 + k * 3 + 1, none⟩ = some (.int .i64 xlo) ∧ w'.cell? ⟨b2, o2 + k * 3 + 2, none⟩ = some (.int .i64 xhi) ∧ Below w.heap.size w w')
        (first | (refine HO.out _ ?_; exact hd) | (refine HO.out _ ?_; assumption))
        (first
          | (go_at_call 27; refine (HL.out _ HDR.out).mono ?_; rintro e w2 ⟨rfl, hb2⟩))
      all_goals
        go_wp2_with fail
        go_roundw
        case rel => exact ⟨k + 1, by omega, by go_num, hb2⟩
        case measure => simp [intOf]; omega
    · have HBB : Hid (Below w.heap.size w wr) := hb
      clear hb
      go_wp2
      go_ret
      exact ⟨rfl, HBB.out⟩

end Go.Proofs.YtjnjmpfldbkciaaGreat
