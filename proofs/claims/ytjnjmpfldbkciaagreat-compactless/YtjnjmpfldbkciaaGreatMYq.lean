/- Merge of two lists of one series each, of one label set. -/
import Derived.Test.YtjnjmpfldbkciaaGreatMYo
import Derived.Test.YtjnjmpfldbkciaaGreatMYp
namespace Go.Proofs.YtjnjmpfldbkciaaGreat
open Go.RowKit Go.Shelf Go.Maps

/-- A function value of slices.Values over one series, all of it from lo on. -/
def ValAt (lo : Nat) (W : World) (f : Value) (z : Ser) : Prop := ∃ Bs g c vl vs, f = .func (.func 70) #[] #[.pointer (some ⟨Bs, 0, none⟩)] ∧ lo ≤ Bs ∧ W.heap[Bs]? = some (.cells #[.slice (some ⟨g, 0, none⟩) 1 c] 22) ∧ lo ≤ g ∧ RowAt W (.slice (some ⟨g, 0, none⟩) 1 c) 2 1 [vl, vs] ∧ LbAt W vl z.1 ∧ SmAt W vs z.2 ∧ (∀ b, blkOf vl = some b → lo ≤ b ∧ b < W.heap.size) ∧ ∀ b, blkOf vs = some b → lo ≤ b ∧ b < W.heap.size
theorem ValAt.kept {lo : Nat} {W W' : World} {f : Value} {z : Ser} (h : ValAt lo W f z) (hk : Kept (fun i => i < lo) W W') : ValAt lo W' f z := by
  obtain ⟨Bs, g, c, vl, vs, e, h1, h2, h3, h4, h5, h6, h7, h8⟩ := h
  have hs := hk.size
  exact ⟨Bs, g, c, vl, vs, e, h1, hk.heap h2 (by omega), h3, RowAt.kept h4 hk (fun b hb => by cases hb; show ¬ g < lo; omega), RowAt.kept h5 hk (fun b hb => by have := h7 b hb; omega), RowAt.kept h6 hk (fun b hb => by have := h8 b hb; omega), fun b hb => by have := h7 b hb; omega, fun b hb => by have := h8 b hb; omega⟩
theorem ValAt.tells {lo : Nat} {W : World} {f : Value} {z : Ser} (h : ValAt lo W f z) : ∃ lf, f = .func (.func 70) #[] lf ∧ Tells1 Tryz.prog 70 lf z W False := by
  obtain ⟨Bs, g, c, vl, vs, e, h1, h2, h3, h4, h5, h6, h7, h8⟩ := h
  exact ⟨_, e, values1_tells Bs _ vl vs z W (Array.getElem?_eq_some_iff.1 h2).1 (by rw [cell_of_heap h2]; rfl) h4 h5 h6 (fun b hb => (h7 b hb).2) (fun b hb => (h8 b hb).2)⟩

/-- What risen1 asks. -/
structure Fit (z : Ser) : Prop where
  l1 : z.1.length ≤ 900
  l2 : z.2.length < 20
  l3 : 0 < z.2.length
  ins : insS z.2 = z.2
  dis : ∀ i (h : i + 1 < z.2.length), z.2[i + 1].1 ≠ z.2[i].1
/-- A slice of one series. -/
def One (W : World) (v : Value) (z : Ser) : Prop := ∃ a c vl vs, v = .slice a 1 c ∧ RowAt W v 2 1 [vl, vs] ∧ LbAt W vl z.1 ∧ SmAt W vs z.2
theorem One.below {W W' : World} {v : Value} {z : Ser} (h : One W v z) (hb : Below W.heap.size W W') : One W' v z := by
  obtain ⟨a, c, vl, vs, e, h1, h2, h3⟩ := h
  exact ⟨a, c, vl, vs, e, RowAt.below h1 hb, RowAt.below h2 hb, RowAt.below h3 hb⟩

theorem run_store_func {P : Program} {w : World} {a : Addr} {m : Mode} (f : Fn) (x y : Array Value) : (store a (.func f x y) m).run P w = stored P w a (.func f x y) m := run_store P w a _ m rfl
attribute [local go_sem] run_store_func
theorem mk2 (w : World) : (Instr.makeSlice 74 (.int .i64 2) (.int .i64 2)).run Tryz.prog w = .ok (.slice (some ⟨w.heap.size, 0, none⟩) 2 2) (w.alloc (.cells #[Value.nilFunc, Value.nilFunc] 59)) := by kernel_rfl
theorem togS_length : ∀ (n : Nat) (a b : List Sm), a.length + b.length ≤ n → (togS a b).length ≤ n
  | n, a, [], h => by unfold togS; simpa using h
  | 0, a, y :: b, h => by simp at h
  | n + 1, [], y :: b, h => by
    rw [togS]
    have := togS_length n [] b (by simp at h ⊢; omega)
    simp at this ⊢
    omega
  | n + 1, x :: a, y :: b, h => by
    rw [togS]
    split
    · have := togS_length n a (y :: b) (by simp at h ⊢; omega)
      simp at this ⊢
      omega
    · split
      · have := togS_length n (x :: a) b (by simp at h ⊢; omega)
        omega
      · have := togS_length n (x :: a) b (by simp at h ⊢; omega)
        simp at this ⊢
        omega
/-- How far Merge's loop has come. -/
def MS (w : World) (za zb : Ser) (k : Nat) (wr : World) : Prop := ∃ f1 f2, wr.heap[w.heap.size]? = some (.cells #[f1, f2] 59) ∧ (1 ≤ k → ValAt (w.heap.size + 1) wr f1 za) ∧ (2 ≤ k → ValAt (w.heap.size + 1) wr f2 zb) ∧ Below w.heap.size w wr ∧ w.heap.size + 1 ≤ wr.heap.size

/-- What one more row comes to. -/
theorem MS.one {w W w2 : World} {v' : Value} {z : Ser} (_hW : Below w.heap.size w W) (hs : w.heap.size + 1 ≤ W.heap.size) (ho : OneAt W.heap.size W.heap.size w2 v' z) (hb : Below W.heap.size W w2) {f : Value} (hf : f = .func (.func 70) #[] #[.pointer (some ⟨w2.heap.size, 0, none⟩)]) (k : Nat) :
    ValAt (w.heap.size + 1) ((w2.alloc (.cells #[v'] 22)).setCell ⟨w.heap.size, k, none⟩ f) f z ∧ Kept (fun i => i < w.heap.size + 1) W ((w2.alloc (.cells #[v'] 22)).setCell ⟨w.heap.size, k, none⟩ f) ∧ Kept (fun i => i = w.heap.size) W ((w2.alloc (.cells #[v'] 22)).setCell ⟨w.heap.size, k, none⟩ f) := by
  obtain ⟨g, c, vl, vs, rfl, h1, h2, h3, h4, h5⟩ := ho
  have hs2 := hb.size
  have hal : Below w2.heap.size w2 (w2.alloc (.cells #[.slice (some ⟨g, 0, none⟩) 1 c] 22)) := (Below.refl _ _).alloc (Nat.le_refl _) _
  have hks : Kept (fun i => i = w.heap.size) (w2.alloc (.cells #[.slice (some ⟨g, 0, none⟩) 1 c] 22)) ((w2.alloc (.cells #[.slice (some ⟨g, 0, none⟩) 1 c] 22)).setCell ⟨w.heap.size, k, none⟩ f) := (Kept.refl (fun i => i = w.heap.size) _).setCell (fun _ => rfl) _
  have hg : W.heap.size ≤ g := by
    have := row_base h1 g rfl
    exact this
  have hsk := Nat.le_trans hal.size hks.size
  have hk2 : Kept (fun i => i = w.heap.size) W ((w2.alloc (.cells #[.slice (some ⟨g, 0, none⟩) 1 c] 22)).setCell ⟨w.heap.size, k, none⟩ f) := ((((Kept.refl (fun i => i = w.heap.size) W).below hb).alloc _).trans hks (fun i _ hi => hi))
  refine ⟨⟨w2.heap.size, g, c, vl, vs, hf, by omega, hks.heap (heap_alloc_new w2 _) (by omega), by omega, RowAt.kept (RowAt.below (RowAt.of_row h1) hal) hks (fun b hb' hbe => by simp [blkOf] at hb'; omega), RowAt.kept (RowAt.below h2 hal) hks (fun b hb' hbe => by have := h4 b hb'; omega), RowAt.kept (RowAt.below h3 hal) hks (fun b hb' hbe => by have := h5 b hb'; omega), fun b hb' => ?_, fun b hb' => ?_⟩, hk2.mono (fun i _ hi => by omega), hk2⟩
  · have := h4 b hb'
    omega
  · have := h5 b hb'
    omega

set_option maxRecDepth 100000 in
set_option maxHeartbeats 4000000 in
theorem mergeC (v va vb : Value) (za zb : Ser) (w : World) (h : RowAt w v 1 2 [va, vb]) (ha : One w va za) (hb : One w vb zb) (fa : Fit za) (fb : Fit zb) (hcmp : cmpL zb.1 za.1 = 0) :
    Calls Tryz.prog 32 #[v] w fun e w' => ∃ B, e = .returned (.func (.func 50) #[] #[.pointer (some ⟨B, 0, none⟩)]) ∧ Tells1 Tryz.prog 50 #[.pointer (some ⟨B, 0, none⟩)] (za.1, togS za.2 zb.2) w' True ∧ Below w.heap.size w w' := by
  obtain ⟨ad, c, rfl, hc1, -⟩ := id h
  obtain ⟨b, o, e, q0⟩ := RowAt.one h (j := 0) rfl
  subst e
  obtain ⟨b', o', e, q1⟩ := RowAt.one h (j := 1) rfl
  cases e
  obtain ⟨xa, ca, vla, vsa, rfl, -⟩ := id ha
  obtain ⟨xb, cb9, vlb, vsb, rfl, -⟩ := id hb
  have HQ0 : Hid _ := q0
  have HQ1 : Hid _ := q1
  have HRA : Hid (∀ X, Below w.heap.size w X → Calls Tryz.prog 48 #[.slice xa 1 ca] X fun e w' => ∃ v', e = .returned v' ∧ OneAt X.heap.size X.heap.size w' v' za ∧ Below X.heap.size X w') := fun X hX => by
    obtain ⟨a, c, vl, vs, e, h1, h2, h3⟩ := ha.below hX
    exact risen1 _ vl vs za X h1 h2 h3 fa.l1 fa.l2 fa.l3 fa.ins fa.dis
  have HRB : Hid (∀ X, Below w.heap.size w X → Calls Tryz.prog 48 #[.slice xb 1 cb9] X fun e w' => ∃ v', e = .returned v' ∧ OneAt X.heap.size X.heap.size w' v' zb ∧ Below X.heap.size X w') := fun X hX => by
    obtain ⟨a, c, vl, vs, e, h1, h2, h3⟩ := hb.below hX
    exact risen1 _ vl vs zb X h1 h2 h3 fb.l1 fb.l2 fb.l3 fb.ins fb.dis
  clear h ha hb q0 q1
  go_enter Tryz.func32, Tryz.ntmps32
  have hmk := mk2 w
  go_wp2
  go_loopw [12] (fun i wr => ∃ k : Nat, k ≤ 2 ∧ i = .int .i64 k ∧ Hid (MS w za zb k wr)) (fun i _ => 2 - (intOf i).toNat)
  case atStart => exact ⟨0, by omega, rfl, _, _, heap_alloc_new w _, fun h => by omega, fun h => by omega, (Below.refl _ _).alloc (Nat.le_refl _) _, by simp⟩
  case round =>
    obtain ⟨k, hk, rfl, hms⟩ := hrel
    obtain ⟨f1, f2, m1, m2, m3, m4, m5⟩ := hms.out
    obtain ⟨wq, hwq⟩ : ∃ wq, wq = wr := ⟨_, rfl⟩
    have HM1 : Hid (wr.heap[w.heap.size]? = some (.cells #[f1, f2] 59)) := m1
    have HM4 : Hid (Below w.heap.size w wr) := m4
    have hX := fun X (hX : Below wr.heap.size wr X) => m4.trans (hX.mono m4.size)
    rcases (show k = 0 ∨ k = 1 ∨ k = 2 by omega) with rfl | rfl | rfl
    · have c0 := HQ0.out wr m4
      rw [Nat.add_zero] at c0
      have hri := HRA.out wr m4
      clear hms m1 m2 m3 m4 hX
      go_wp2_with (first
        | (go_at_call 48; refine hri.mono ?_; clear hri; rintro e w2 ⟨v2, rfl, ho2, hb2⟩; obtain ⟨g2, c2, -, -, rfl, -⟩ := id ho2; have HO2 : Hid _ := ho2; have HB2 : Hid (Below wr.heap.size wr w2) := hb2; clear ho2 hb2)
        | (go_at_call 47; refine (values_any _ _ _ _).mono ?_; rintro e w3 ⟨rfl, rfl⟩; have hh3 : (w2.alloc (.cells #[.slice (some ⟨g2, 0, none⟩) 1 c2] 22)).heap[w.heap.size]? = some (.cells #[f1, f2] 59) := (Below.heap_alloc w2 _ _ (by have := HB2.out.size; omega)).trans ((HB2.out.block _ (by omega)).trans HM1.out); have cc3 : (w2.alloc (.cells #[.slice (some ⟨g2, 0, none⟩) 1 c2] 22)).cell? ⟨w.heap.size, 0, none⟩ = some f1 := (by rw [cell_of_heap hh3]; rfl); have ff3 : (w2.alloc (.cells #[.slice (some ⟨g2, 0, none⟩) 1 c2] 22)).frozen? ⟨w.heap.size, 0, none⟩ = false := frozen_of_heap hh3; have HH3 : Hid _ := hh3; clear hh3))
      go_roundw
      case rel =>
        obtain ⟨n1, n2, n3⟩ := MS.one HM4.out m5 HO2.out HB2.out rfl 0
        exact ⟨1, by omega, by go_num, _, f2, heap_setCell_same HH3.out _, fun _ => n1, fun h => by omega, HM4.out.trans (n3.toBelow HM4.out.size (fun i hi => by omega)), Nat.le_trans m5 n3.size⟩
      case measure => simp [intOf]
    · have c0 := HQ1.out wr m4
      have hri := HRB.out wr m4
      have HM2 : Hid _ := m2 (by omega)
      clear hms m1 m2 m3 m4 hX
      go_wp2_with (first
        | (go_at_call 48; refine hri.mono ?_; clear hri; rintro e w2 ⟨v2, rfl, ho2, hb2⟩; obtain ⟨g2, c2, -, -, rfl, -⟩ := id ho2; have HO2 : Hid _ := ho2; have HB2 : Hid (Below wr.heap.size wr w2) := hb2; clear ho2 hb2)
        | (go_at_call 47; refine (values_any _ _ _ _).mono ?_; rintro e w3 ⟨rfl, rfl⟩; have hh3 : (w2.alloc (.cells #[.slice (some ⟨g2, 0, none⟩) 1 c2] 22)).heap[w.heap.size]? = some (.cells #[f1, f2] 59) := (Below.heap_alloc w2 _ _ (by have := HB2.out.size; omega)).trans ((HB2.out.block _ (by omega)).trans HM1.out); have cc3 : (w2.alloc (.cells #[.slice (some ⟨g2, 0, none⟩) 1 c2] 22)).cell? ⟨w.heap.size, 1, none⟩ = some f2 := (by rw [cell_of_heap hh3]; rfl); have ff3 : (w2.alloc (.cells #[.slice (some ⟨g2, 0, none⟩) 1 c2] 22)).frozen? ⟨w.heap.size, 1, none⟩ = false := frozen_of_heap hh3; have HH3 : Hid _ := hh3; clear hh3))
      go_roundw
      case rel =>
        obtain ⟨n1, n2, n3⟩ := MS.one HM4.out m5 HO2.out HB2.out rfl 1
        exact ⟨2, by omega, by go_num, f1, _, heap_setCell_same HH3.out _, fun _ => ValAt.kept HM2.out n2, fun _ => n1, HM4.out.trans (n3.toBelow HM4.out.size (fun i hi => by omega)), Nat.le_trans m5 n3.size⟩
      case measure => simp [intOf]
    · obtain ⟨l1, rfl, t1⟩ := (m2 (by omega)).tells
      obtain ⟨l2, rfl, t2⟩ := (m3 (by omega)).tells
      have hv1 := m2 (by omega)
      have hv2 := m3 (by omega)
      have hme := merged2 w.heap.size _ _ l1 l2 wr (by rw [cell_of_heap m1]; rfl) (by rw [cell_of_heap m1]; rfl)
      have HV1 : Hid _ := hv1
      have HV2 : Hid _ := hv2
      clear hms m1 m2 m3 m4 hX t1 t2 hv1 hv2
      go_wp2_with (go_at_call 49; refine hme.mono ?_; clear hme; rintro e w4 ⟨B, rfl, hB1, hB2, hB3, hB4, hB5⟩; have H3 : Hid _ := hB3; have H4 : Hid _ := hB4; have H5 : Hid _ := hB5; clear hB3 hB4 hB5)
      go_ret
      have hal : Below w4.heap.size w4 (w4.alloc (.cells #[.func (.func 90) #[] #[.pointer (some ⟨B + 1, 0, none⟩), .pointer (some ⟨B, 0, none⟩)]] 59)) := (Below.refl _ _).alloc (Nat.le_refl _) _
      have hnew := heap_alloc_new w4 (.cells #[.func (.func 90) #[] #[.pointer (some ⟨B + 1, 0, none⟩), .pointer (some ⟨B, 0, none⟩)]] 59)
      have hsz : w4.heap.size < (w4.alloc (.cells #[.func (.func 90) #[] #[.pointer (some ⟨B + 1, 0, none⟩), .pointer (some ⟨B, 0, none⟩)]] 59)).heap.size := by simp
      refine ⟨w4.heap.size, rfl, ?_, (HM4.out.trans (H5.out.mono HM4.out.size)).trans (hal.mono (Nat.le_trans HM4.out.size H5.out.size))⟩
      have cB1 := (hal.cell (p := ⟨B, 0, none⟩) (by show B < _; omega)).trans H3.out
      have cB2 := (hal.cell (p := ⟨B + 1, 0, none⟩) (by show B + 1 < _; omega)).trans H4.out
      have hbw : Below wr.heap.size wr (w4.alloc (.cells #[.func (.func 90) #[] #[.pointer (some ⟨B + 1, 0, none⟩), .pointer (some ⟨B, 0, none⟩)]] 59)) := H5.out.trans (hal.mono H5.out.size)
      generalize w4.alloc (.cells #[.func (.func 90) #[] #[.pointer (some ⟨B + 1, 0, none⟩), .pointer (some ⟨B, 0, none⟩)]] 59) = W5 at *
      have hkk : Kept (fun i => i < w.heap.size + 1) wr W5 := Kept.of_below hbw _ (fun i h1 h2 => absurd h2 (by omega))
      obtain ⟨l1', e1, t1⟩ := ValAt.tells (ValAt.kept HV1.out hkk)
      cases e1
      obtain ⟨l2', e2, t2⟩ := ValAt.tells (ValAt.kept HV2.out hkk)
      cases e2
      have eV : ∀ args w, (callFunc 70 args).run Tryz.prog w = .ok (.enter 70 args) w := enters_of Tryz.func70 (by kernel_rfl) rfl
      have eB : ∀ args w, (callFunc 90 args).run Tryz.prog w = .ok (.enter 90 args) w := enters_of Tryz.func90 (by kernel_rfl) rfl
      have k1 := fa.l1
      have k2 := fb.l1
      have k3 := fa.l2
      have k4 := fb.l2
      have hbt := both1_tells B (B + 1) _ _ l1 l2 za zb W5 (by omega) (by omega) cB1 cB2 t1 t2 eV eV hcmp (by omega) (by omega) (by omega)
      exact merge1_tells w4.heap.size _ _ (za.1, togS za.2 zb.2) W5 hsz (by rw [cell_of_heap hnew]; rfl) hbt eB (by show za.1.length ≤ 1000; omega) (by have := togS_length 40 za.2 zb.2 (by omega); show (togS za.2 zb.2).length ≤ 100000; omega)

end Go.Proofs.YtjnjmpfldbkciaaGreat
