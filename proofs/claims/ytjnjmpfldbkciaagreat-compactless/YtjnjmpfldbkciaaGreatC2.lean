/- labels.Compare, and what it leaves: blocks behind, drawn orders. -/
import Derived.Test.YtjnjmpfldbkciaaGreatB8
import Derived.Shelf.SlSorted.Search
namespace Go.Proofs.YtjnjmpfldbkciaaGreat
open Go.RowKit Go.Shelf Go.Sort

/-- Orders have been drawn, blocks laid behind; nothing else. -/
def GrW (w w' : World) : Prop := ∃ q os, w' = grow (w.drewN q) os
theorem GrW.refl (w : World) : GrW w w := ⟨0, #[], by rw [grow_empty]; rfl⟩
theorem GrW.trans {a b c : World} (h : GrW a b) (k : GrW b c) : GrW a c := by
  obtain ⟨q, os, rfl⟩ := h
  obtain ⟨q', os', rfl⟩ := k
  refine ⟨q + q', os ++ os', ?_⟩
  rw [← grow_grow]
  unfold grow World.drewN
  simp only [Nat.add_assoc]
theorem GrW.alloc {a b : World} (h : GrW a b) (o : Obj) : GrW a (b.alloc o) := h.trans ⟨0, #[o], by rw [alloc_eq_grow]; rfl⟩
theorem GrW.drewN {a b : World} (h : GrW a b) (q : Nat) : GrW a (b.drewN q) := h.trans ⟨q, #[], by rw [grow_empty]⟩
theorem GrW.below {w w' : World} (h : GrW w w') : Below w.heap.size w w' := by
  obtain ⟨q, os, rfl⟩ := h
  refine ⟨rfl, rfl, rfl, by simp [grow], fun i hi => ?_⟩
  show ((w.drewN q).heap ++ os)[i]? = _
  rw [Array.getElem?_append_left (by show i < w.heap.size; omega)]
  rfl

set_option maxRecDepth 100000 in
set_option maxHeartbeats 1000000 in
theorem compareLabel_g (x y : Lb) (w : World) :
    Calls Tryz.prog 40 #[.agg #[.string x.1, .string x.2], .agg #[.string y.1, .string y.2]] w fun e w' => e = .returned (.int .i64 (cmpLb x y)) ∧ GrW w w' := by
  obtain ⟨a, b⟩ := x
  obtain ⟨c, d⟩ := y
  unfold cmpLb
  dsimp only
  have hC1 := fun W => strCompare_any a c W
  have hC2 := fun W => strCompare_any b d W
  have HB : Hid (∀ o1 o2, GrW w ((w.alloc o1).alloc o2)) := fun o1 o2 => ((GrW.refl w).alloc o1).alloc o2
  generalize cb a c = r1 at *
  generalize cb b d = r2 at *
  by_cases h1 : r1 = 0
  · subst h1
    go_enter Tryz.func40, Tryz.ntmps40
    go_wp2_with (first
      | (go_at_call 68; refine (hC1 _).mono ?_; clear hC1; rintro e w' ⟨rfl, rfl⟩)
      | (go_at_call 68; refine (hC2 _).mono ?_; rintro e w' ⟨rfl, rfl⟩))
    go_ret
    exact ⟨rfl, HB.out _ _⟩
  · rw [if_neg h1]
    go_enter Tryz.func40, Tryz.ntmps40
    go_wp2_with (first
      | (go_at_call 68; refine (hC1 _).mono ?_; clear hC1; rintro e w' ⟨rfl, rfl⟩))
    go_ret
    exact ⟨rfl, HB.out _ _⟩

set_option maxRecDepth 100000 in
set_option maxHeartbeats 1500000 in
theorem compareFunc_g (v u : Value) (ls ms : List Lb) (w : World) (h : LbAt w v ls) (hm : LbAt w u ms) (hl : ls.length ≤ 1000000) (_hl2 : ms.length ≤ 1000000) :
    Calls Tryz.prog 39 #[v, u, .func (.func 40) #[] #[]] w fun e w' => e = .returned (.int .i64 (cmpL ls ms)) ∧ GrW w w' := by
  obtain ⟨a, c, rfl, -⟩ := id h
  obtain ⟨a2, c2, rfl, -⟩ := id hm
  have HC : Hid (LbAt w (.slice a ls.length c) ls) := h
  have HM : Hid (LbAt w (.slice a2 ms.length c2) ms) := hm
  have heC : ∀ args w, (callFunc 40 args).run Tryz.prog w = .ok (.enter 40 args) w := enters_of Tryz.func40 (by kernel_rfl) rfl
  clear h hm
  go_enter Tryz.func39, Tryz.ntmps39
  go_wp2
  go_loopw [13] (fun i wr => ∃ k : Nat, k ≤ ls.length ∧ k ≤ ms.length ∧ i = .int .i64 k ∧ Hid (cmpL (ls.drop k) (ms.drop k) = cmpL ls ms) ∧ Hid (GrW w wr)) (fun i _ => ls.length - (intOf i).toNat)
  case atStart => exact ⟨0, Nat.zero_le _, Nat.zero_le _, rfl, rfl, GrW.refl _⟩
  case round =>
    obtain ⟨k, hk, hk2, rfl, hall, hbel⟩ := hrel
    have hgW := hbel.out
    have hbW := hgW.below
    by_cases hlt : k < ls.length
    · obtain ⟨b, o, rfl, hone⟩ := HC.out.one k hlt
      obtain ⟨g0, g1⟩ := hone wr hbW
      obtain ⟨x, hx⟩ : ∃ x, x = ls[k] := ⟨_, rfl⟩
      rw [← hx] at g0 g1
      by_cases hlt2 : k < ms.length
      · obtain ⟨b2, o2, rfl, hone2⟩ := HM.out.one k hlt2
        obtain ⟨y, hy⟩ : ∃ y, y = ms[k] := ⟨_, rfl⟩
        rw [← hy] at hone2
        have HST : Hid (cmpL ls ms = if cmpLb x y = 0 then cmpL (ls.drop (k + 1)) (ms.drop (k + 1)) else cmpLb x y) := by
          show _ = _
          rw [← hall.out, cmpL_drop hlt hlt2, hx, hy]
        obtain ⟨x1, x2⟩ := x
        obtain ⟨y1, y2⟩ := y
        dsimp only at g0 g1 hone2
        have hg1 : GrW w (wr.alloc (.cells #[.string x1, .string x2] 53)) := hgW.alloc _
        obtain ⟨e0, e1⟩ := hone2 _ hg1.below
        have hg2 : GrW w ((wr.alloc (.cells #[.string x1, .string x2] 53)).alloc (.cells #[.string y1, .string y2] 53)) := hg1.alloc _
        have hcmp := compareLabel_g (x1, x2) (y1, y2) ((wr.alloc (.cells #[.string x1, .string x2] 53)).alloc (.cells #[.string y1, .string y2] 53))
        have HB2 : Hid (∀ w', GrW ((wr.alloc (.cells #[.string x1, .string x2] 53)).alloc (.cells #[.string y1, .string y2] 53)) w' → GrW w w') := fun w' hb => hg2.trans hb
        clear hx hy hone hone2 hall hg1 hg2 hbW hgW
        generalize cmpLb (x1, x2) (y1, y2) = r at *
        by_cases hr : r = 0
        · subst hr
          go_wp2_with (go_at_call 40; refine hcmp.mono ?_; rintro e w' ⟨rfl, hb3⟩)
          go_roundw
          case rel => exact ⟨k + 1, by omega, by omega, by go_num, by show _ = _; rw [HST.out]; simp, HB2.out _ hb3⟩
          case measure => simp [intOf]; omega
        · have HR : Hid (cmpL ls ms = r) := by show _ = _; rw [HST.out, if_neg hr]
          clear HST
          go_wp2_with (go_at_call 40; refine hcmp.mono ?_; rintro e w' ⟨rfl, hb3⟩)
          go_ret
          exact ⟨by rw [HR.out]; rfl, HB2.out _ hb3⟩
      · have HR : Hid (cmpL ls ms = 1) := by
          show _ = _
          rw [← hall.out, List.drop_of_length_le (show ms.length ≤ k by omega), List.drop_eq_getElem_cons hlt]
          rfl
        obtain ⟨x1, x2⟩ := x
        dsimp only at g0 g1
        have HB2 : Hid (∀ o, GrW w (wr.alloc o)) := fun o => hgW.alloc o
        clear hx hone hall hbW hgW
        go_wp2
        go_ret
        exact ⟨by rw [HR.out]; rfl, HB2.out _⟩
    · by_cases hlt2 : ls.length < ms.length
      · have HR : Hid (cmpL ls ms = -1) := by
          show _ = _
          have e9 : k < ms.length := by omega
          rw [← hall.out, List.drop_of_length_le (show ls.length ≤ k by omega), List.drop_eq_getElem_cons e9]
          rfl
        clear hall HC HM
        go_wp2
        go_ret
        exact ⟨by rw [HR.out]; rfl, hbel.out⟩
      · have HR : Hid (cmpL ls ms = 0) := by
          show _ = _
          rw [← hall.out, List.drop_of_length_le (show ls.length ≤ k by omega), List.drop_of_length_le (show ms.length ≤ k by omega)]
          rfl
        clear hall HC HM
        go_wp2
        go_ret
        exact ⟨by rw [HR.out]; rfl, hbel.out⟩

theorem compare_g (v u : Value) (ls ms : List Lb) (w : World) (h : LbAt w v ls) (hm : LbAt w u ms) (hl : ls.length ≤ 1000000) (hl2 : ms.length ≤ 1000000) :
    Calls Tryz.prog 23 #[v, u] w fun e w' => e = .returned (.int .i64 (cmpL ls ms)) ∧ GrW w w' := by
  have hc := compareFunc_g v u ls ms w h hm hl hl2
  obtain ⟨a, c, rfl, -⟩ := id h
  obtain ⟨a2, c2, rfl, -⟩ := id hm
  clear h hm
  generalize cmpL ls ms = r at *
  go_enter Tryz.func23, Tryz.ntmps23
  go_wp2_with (go_at_call 39; refine hc.mono ?_; rintro e w' ⟨rfl, hb⟩)
  go_ret
  exact ⟨rfl, hb⟩

end Go.Proofs.YtjnjmpfldbkciaaGreat
