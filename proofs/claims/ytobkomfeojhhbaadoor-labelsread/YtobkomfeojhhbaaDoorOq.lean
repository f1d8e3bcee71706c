/- LabelsRead, walked. -/
import Derived.Test.YtobkomfeojhhbaaDoorOf
import Derived.Test.YtobkomfeojhhbaaDoorOb
import Derived.Test.YtobkomfeojhhbaaDoorLj
import Derived.Test.YtobkomfeojhhbaaDoorLh
import Derived.Deep.RegionHeld3
namespace Go.Proofs.YtobkomfeojhhbaaDoor
open Go.RowKit Go.Maps

set_option maxRecDepth 100000 in
set_option maxHeartbeats 6000000 in
theorem readLaw_any (v : Value) (bs : List UInt8) (w : World) (h : BytesAt w v bs) (hT : Tabs w) :
    Calls Tryd.prog 6 #[v] w fun e w' => e = .returned (.bool true) ∧ Below w.heap.size w w' := by
  obtain ⟨a, c, rfl, hlc, -⟩ := id h
  have hmx : c ≤ 9223372036854775807 := by have h1 := hlc; unfold maxLen at h1; omega
  obtain ⟨b4, hb4⟩ : ∃ b4, b4 = bs.take 4000 := ⟨_, rfl⟩
  have hl4 : b4.length ≤ 4000 := by rw [hb4]; simp; omega
  have HLEND : Hid (∀ V W, BytesAt W V b4 → Calls Tryd.prog 36 #[V] W fun e w' => ∃ g c, e = .returned (.slice (some ⟨g, 0, none⟩) b4.length c) ∧ w'.ownsRow W.heap.size 5 1 (.slice (some ⟨g, 0, none⟩) (b4.length + 4) c) (b4.length + 4) (byteVals (b4 ++ marks)) ∧ Below W.heap.size W w') := fun V W hV => lendB_any V b4 W hV (by omega)
  have HRD : Hid (∀ V W, BytesAt W V b4 → Tabs W → Calls Tryd.prog 34 #[V] W fun e w' => ∃ a c, e = .returned (.tuple #[.slice a (readR b4).1.length c, .int .i64 (readR b4).2]) ∧ w'.ownsRow W.heap.size 51 2 (.slice a (readR b4).1.length c) (readR b4).1.length (lbCells (readR b4).1) ∧ Below W.heap.size W w') := fun V W hV ht => (read_any V b4 W hV (by omega) ht).mono fun e w' ⟨v', he, hr, hb⟩ => by
    obtain ⟨a, c, rfl⟩ := slice_of_row hr
    exact ⟨a, c, he, hr, hb⟩
  have HRR : Hid (∀ V W, BytesAt W V b4 → Calls Tryd.prog 37 #[V] W fun e w' => ∃ a c, e = .returned (.tuple #[.slice a (readR b4).1.length c, .int .i64 (readR b4).2]) ∧ w'.ownsRow W.heap.size 51 2 (.slice a (readR b4).1.length c) (readR b4).1.length (lbCells (readR b4).1) ∧ Below W.heap.size W w') := fun V W hV => (refRead_any V b4 W hV (by omega)).mono fun e w' ⟨v', he, hr, hb⟩ => by
    obtain ⟨a, c, rfl⟩ := slice_of_row hr
    exact ⟨a, c, he, hr, hb⟩
  have HINT : Hid (∀ g c V base W, W.ownsRow base 5 1 (.slice (some ⟨g, 0, none⟩) (b4.length + 4) c) (b4.length + 4) (byteVals (b4 ++ marks)) → BytesAt W V b4 → Calls Tryd.prog 38 #[.slice (some ⟨g, 0, none⟩) b4.length c, V] W fun e w' => e = .returned (.bool true) ∧ Kept (fun k => k = g) W w') := fun g c V base W h1 h2 => intactB_any g c V b4 base W h1 h2 (by omega)
  have HLT : Hid (∀ g c base W, W.ownsRow base 5 1 (.slice (some ⟨g, 0, none⟩) (b4.length + 4) c) (b4.length + 4) (byteVals (b4 ++ marks)) → BytesAt W (.slice (some ⟨g, 0, none⟩) b4.length c) b4) := fun g c base W ho => by
    have hlm : (b4 ++ marks).length = b4.length + 4 := by simp [marks]
    have hLA : BytesAt W (.slice (some ⟨g, 0, none⟩) (b4.length + 4) c) (b4 ++ marks) := BytesAt.of_row (base := base) (by rw [hlm]; exact ho)
    have h9 := hLA.take b4.length (by omega)
    rw [List.take_left] at h9
    exact h9
  have HWK : Hid (∀ W, Below w.heap.size w W → Calls Tryd.prog 16 #[] W fun e w' => e = .returned (.bool true) ∧ Below w.heap.size w w') := fun W hW => (wakes_any W (hT.below hW)).mono fun e w' ⟨he, hb⟩ => ⟨he, hW.trans (hb.mono hW.size)⟩
  have HT : Hid (∀ W, Below w.heap.size w W → Tabs W) := fun W hW => hT.below hW
  have hok := readR_ok (bs := b4) (l := (readR b4).1)
  have herr := readR_err (bs := b4)
  obtain ⟨l, hll⟩ : ∃ l, (readR b4).1 = l := ⟨_, rfl⟩
  obtain ⟨E, hE⟩ : ∃ E, (readR b4).2 = E := ⟨_, rfl⟩
  have hpair : readR b4 = (l, E) := by rw [← hll, ← hE]
  rw [hll, hE] at HRD HRR
  have HOK : Hid (E = 0 → bytesL l = b4 ∧ rightS l = true) := fun e0 => by
    subst e0
    exact readR_ok hpair
  have HER : Hid (E ≠ 0 → l = []) := fun e0 => by
    have h9 := herr (by rw [hE]; exact e0)
    rw [hpair] at h9
    exact (Prod.mk.inj h9).1
  have hl64 : l.length ≤ 64 := by
    by_cases e0 : E = 0
    · exact ((rightS_iff l).1 (HOK.out e0).2).1
    · rw [HER.out e0]; simp
  have HEQ : Hid (∀ V V' W, LabsAt W V l → LabsAt W V' l → Calls Tryd.prog 13 #[V, V'] W fun e w' => e = .returned (.bool true) ∧ Below W.heap.size W w') := fun V V' W h1 h2 => (alike_any V V' l l W h1 h2 (by omega) (by omega)).mono fun e w' ⟨he, q, hq⟩ => ⟨by rw [he]; simp [eqL], by rw [hq]; exact below_drewN (Below.refl _ _) q⟩
  have HSTR : Hid (∀ V W, BytesAt W V b4 → (convert 38 9 V).run Tryd.prog W = .ok (.string ⟨b4.toArray⟩) W) := fun V W hV => hV.str
  have HBY : Hid (E = 0 → ∀ V W, LabsAt W V l → Calls Tryd.prog 30 #[V] W fun e w' => ∃ a c, e = .returned (.slice a b4.length c) ∧ (convert 38 9 (.slice a b4.length c)).run Tryd.prog w' = .ok (.string ⟨b4.toArray⟩) w' ∧ Below W.heap.size W w') := fun e0 V W hV => by
    obtain ⟨h1, h2⟩ := HOK.out e0
    refine (bytes_any V l W hV (by omega) (right_Short h2)).mono fun e w' ⟨v', he, hr, hb⟩ => ?_
    rw [h1] at hr
    obtain ⟨a, c, rfl⟩ := slice_of_row hr
    exact ⟨a, c, he, (BytesAt.of_row hr).str, hb⟩
  have HRI : Hid (E = 0 → ∀ V W, LabsAt W V l → Tabs W → Calls Tryd.prog 14 #[V] W fun e w' => e = .returned (.bool true) ∧ Below W.heap.size W w') := fun e0 V W hV ht => by
    have h2 := (HOK.out e0).2
    have h9 := right_any V l W hV (by omega) (right_sized h2) ht
    rw [h2] at h9
    exact h9
  generalize (⟨b4.toArray⟩ : ByteArray) = tx at *
  have hcase : (4000 < bs.length ∧ Hid (b4.length = 4000) ∧ ∃ bn on, a = some ⟨bn, on, none⟩ ∧ Hid (BytesAt w (.slice a 4000 c) b4) ∧ (4000 : Int) ≤ (c : Int)) ∨ (¬ 4000 < bs.length ∧ b4 = bs ∧ Hid (BytesAt w (.slice a bs.length c) b4)) := by
    rcases Nat.lt_or_ge 4000 bs.length with h4 | h4
    · obtain ⟨bn, on, e, -⟩ := h.one 0 (by omega)
      exact Or.inl ⟨h4, by show _ = _; rw [hb4]; simp; omega, bn, on, e, by rw [hb4]; exact h.take 4000 (by omega), by omega⟩
    · exact Or.inr ⟨by omega, by rw [hb4, List.take_of_length_le h4], by rw [hb4, List.take_of_length_le h4]; exact h⟩
  clear h hT hok herr hll hE hpair HOK HER hb4
  rcases hcase with ⟨h4, hl4e, bn, on, rfl, HU, h4i⟩ | ⟨h4, rfl, HU⟩
  · go_enter Tryd.func6, Tryd.ntmps6
    go_wp2_with (first
      | (go_at_call 36; refine (HLEND.out _ _ HU.out).mono ?_; clear HLEND; rintro e w2 ⟨g, cg, rfl, hr2, hb2⟩; have HG2 : Hid (w2.ownsRow w.heap.size 5 1 (.slice (some ⟨g, 0, none⟩) (b4.length + 4) cg) (b4.length + 4) (byteVals (b4 ++ marks))) := hr2; have HB2 : Hid (Below w.heap.size w w2) := hb2; have hg2 : w.heap.size ≤ g ∧ g < w2.heap.size := hr2.lt g rfl; clear hr2 hb2)
      | (go_at_call 34; refine (HRD.out _ _ (HLT.out _ _ _ _ HG2.out) (HT.out _ HB2.out)).mono ?_; clear HRD HLT; rintro e w3 ⟨aa, ca, rfl, hr3, hb3⟩; have HA3 : Hid (w3.ownsRow w2.heap.size 51 2 (.slice aa l.length ca) l.length (lbCells l)) := hr3; have HG3 : Hid (w3.ownsRow w.heap.size 5 1 (.slice (some ⟨g, 0, none⟩) (b4.length + 4) cg) (b4.length + 4) (byteVals (b4 ++ marks))) := row_below HG2.out hb3; have HB3 : Hid (Below w.heap.size w w3) := HB2.out.trans (hb3.mono HB2.out.size); have hs23 := hb3.size; clear hr3 hb3 HG2 HB2)
      | (go_at_call 37; refine (HRR.out _ _ (HU.out.below HB3.out)).mono ?_; clear HRR; rintro e w4 ⟨ab, cb, rfl, hr4, hb4⟩; have HC4 : Hid (w4.ownsRow w3.heap.size 51 2 (.slice ab l.length cb) l.length (lbCells l)) := hr4; have HA4 : Hid (w4.ownsRow w2.heap.size 51 2 (.slice aa l.length ca) l.length (lbCells l)) := row_below HA3.out hb4; have HG4 : Hid (w4.ownsRow w.heap.size 5 1 (.slice (some ⟨g, 0, none⟩) (b4.length + 4) cg) (b4.length + 4) (byteVals (b4 ++ marks))) := row_below HG3.out hb4; have HB4 : Hid (Below w.heap.size w w4) := HB3.out.trans (hb4.mono HB3.out.size); clear hr4 hb4 HG3 HB3 HA3)
      | (go_at_call 38; refine (HINT.out _ _ _ _ _ HG4.out (HU.out.below HB4.out)).mono ?_; clear HINT; rintro e w5 ⟨rfl, hk5⟩; have HA5 : Hid (w5.ownsRow w2.heap.size 51 2 (.slice aa l.length ca) l.length (lbCells l)) := hk5.ownsRow HA4.out (fun k h1 h2 => by have := (HA4.out.lt k h1).1; omega); have HC5 : Hid (w5.ownsRow w3.heap.size 51 2 (.slice ab l.length cb) l.length (lbCells l)) := hk5.ownsRow HC4.out (fun k h1 h2 => by have := (HC4.out.lt k h1).1; omega); have HB5 : Hid (Below w.heap.size w w5) := HB4.out.trans (hk5.toBelow HB4.out.size (fun i hi => by omega)); clear hk5 HA4 HC4 HG4 HB4)
      | (go_at_call 13; refine (HEQ.out _ _ _ (LabsAt.of_row HA5.out) (LabsAt.of_row HC5.out)).mono ?_; clear HEQ; rintro e w6 ⟨rfl, hb6⟩; have HA6 : Hid (LabsAt w6 (.slice aa l.length ca) l) := LabsAt.of_row (row_below HA5.out hb6); have HB6 : Hid (Below w.heap.size w w6) := HB5.out.trans (hb6.mono HB5.out.size); clear hb6 HA5 HC5 HB5))
    by_cases hE0 : E = 0
    · subst hE0
      have HBY1 : Hid _ := HBY.out rfl
      have HRI1 : Hid _ := HRI.out rfl
      clear HBY HRI
      have HRV : Hid (∀ W, Below w.heap.size w W → (convert 38 9 (.slice (some ⟨bn, on, none⟩) 4000 c)).run Tryd.prog W = .ok (.string tx) W) := fun W hW => HSTR.out _ _ (HU.out.below hW)
      have hD : Below w6.heap.size w6 w6.drew := (Below.refl _ _).drew
      have hS6 : Below w.heap.size w w6.drew := HB6.out.drew
      have hrv6 := HRV.out _ hS6
      refine wp_region_held_drew (S := fun w' => Below w.heap.size w w' ∧ (convert 38 9 (.slice (some ⟨bn, on, none⟩) 4000 c)).run Tryd.prog w' = .ok (.string tx) w') (by kernel_rfl) ⟨hS6, hrv6⟩ (fun hHeld => ?_)
      refine wpAnyH_take (i := 0) (oi := { dst := some 40, op := Op.move (Operand.tmp 5), type := 24, pos := "law.go:121", after := #[], guard := none }) (v := ?_) rfl (by kernel_rfl) (by kernel_rfl) (by kernel_rfl) (fun _ _ _ h => h) (Or.inl ⟨by rfl, ?_⟩) (by assumption) ?_
      rotate_left
      focus (intro w hSw; obtain ⟨-, hSw2⟩ := hSw; go_simp; try (with_reducible rfl))
      try simp only [Act.put, List.setIfInBounds_toArray, List.set_cons_zero, List.set_cons_succ]
      refine wpAnyH_take (i := 1) (oi := { dst := some 41, op := Op.binOp BinOp.neq 24 (Operand.tmp 40) (Operand.const (Value.int IntKind.i64 0)) 24, type := 4, pos := "law.go:121", after := #[{ on := 0, ground := Ground.data }], guard := none }) (v := ?_) rfl (by kernel_rfl) (by kernel_rfl) (by kernel_rfl) (fun _ _ _ h => h) (Or.inl ⟨by rfl, ?_⟩) (by assumption) ?_
      rotate_left
      focus (intro w hSw; obtain ⟨-, hSw2⟩ := hSw; go_simp; try (with_reducible rfl))
      try simp only [Act.put, List.setIfInBounds_toArray, List.set_cons_zero, List.set_cons_succ]
      refine wpAnyH_take (i := 2) (oi := { dst := some 42, op := Op.move (Operand.tmp 41), type := 4, pos := "law.go:121", after := #[{ on := 1, ground := Ground.data }], guard := none }) (v := ?_) rfl (by kernel_rfl) (by kernel_rfl) (by kernel_rfl) (fun _ _ _ h => h) (Or.inl ⟨by rfl, ?_⟩) (by assumption) ?_
      rotate_left
      focus (intro w hSw; obtain ⟨-, hSw2⟩ := hSw; go_simp; try (with_reducible rfl))
      try simp only [Act.put, List.setIfInBounds_toArray, List.set_cons_zero, List.set_cons_succ]
      refine wpAnyH_take (i := 3) (oi := { dst := some 43, op := Op.move (Operand.tmp 4), type := 22, pos := "law.go:121", after := #[{ on := 2, ground := Ground.guard }], guard := some (2, false) }) (v := ?_) rfl (by kernel_rfl) (by kernel_rfl) (by kernel_rfl) (fun _ _ _ h => h) (Or.inl ⟨by rfl, ?_⟩) (by assumption) ?_
      rotate_left
      focus (intro w hSw; obtain ⟨-, hSw2⟩ := hSw; go_simp; try (with_reducible rfl))
      try simp only [Act.put, List.setIfInBounds_toArray, List.set_cons_zero, List.set_cons_succ]
      refine wpAnyH_take (i := 6) (oi := { dst := some 46, op := Op.move (Operand.tmp 0), type := 38, pos := "law.go:121", after := #[{ on := 2, ground := Ground.guard }], guard := some (2, false) }) (v := ?_) rfl (by kernel_rfl) (by kernel_rfl) (by kernel_rfl) (fun _ _ _ h => h) (Or.inl ⟨by rfl, ?_⟩) (by assumption) ?_
      rotate_left
      focus (intro w hSw; obtain ⟨-, hSw2⟩ := hSw; go_simp; try (with_reducible rfl))
      try simp only [Act.put, List.setIfInBounds_toArray, List.set_cons_zero, List.set_cons_succ]
      refine wpAnyH_take (i := 7) (oi := { dst := some 47, op := Op.convert 38 9 (Operand.tmp 46), type := 9, pos := "law.go:121", after := #[{ on := 6, ground := Ground.data }, { on := 2, ground := Ground.guard }], guard := some (2, false) }) (v := ?_) rfl (by kernel_rfl) (by kernel_rfl) (by kernel_rfl) (fun _ _ _ h => h) (Or.inl ⟨by rfl, ?_⟩) (by assumption) ?_
      rotate_left
      focus (intro w hSw; obtain ⟨-, hSw2⟩ := hSw; go_simp; try (with_reducible rfl))
      try simp only [Act.put, List.setIfInBounds_toArray, List.set_cons_zero, List.set_cons_succ]
      refine wpAnyH_ready (rs := [4]) (by kernel_rfl) (by simp) ?_
      refine AllReadyH.cons (o := { dst := some 44, op := Op.call { callee := Callee.value (Operand.func 30), args := #[Operand.tmp 43], argTypes := #[22] }, type := 38, pos := "law.go:121", after := #[{ on := 3, ground := Ground.data }, { on := 2, ground := Ground.chain }, { on := 2, ground := Ground.guard }], guard := some (2, false) }) rfl (fun K hK => ?_) AllReadyH.nil
      go_simp
      go_at_call 30; refine (HBY1.out _ _ (HA6.out.below hD)).mono ?_; clear HBY1; rintro e w7 ⟨ax, cx, rfl, hcv7, hb7⟩; have hz7 : Below w.heap.size w w7 := hS6.trans (hb7.mono hS6.size); have HA7 : Hid (LabsAt w7 (.slice aa l.length ca) l) := (HA6.out.below hD).below hb7; have hrv7 := HRV.out w7 hz7; clear hb7
      go_wp2_with fail
      refine hK.out _ _ ⟨hz7, hrv7⟩ (fun hHeld => ?_)
      clear hK K
      try simp only [Act.put, List.setIfInBounds_toArray, List.set_cons_zero, List.set_cons_succ]
      refine wpAnyH_ready (rs := [5]) (by kernel_rfl) (by simp) ?_
      refine AllReadyH.cons (o := { dst := some 45, op := Op.convert 38 9 (Operand.tmp 44), type := 9, pos := "law.go:121", after := #[{ on := 4, ground := Ground.data }, { on := 2, ground := Ground.guard }], guard := some (2, false) }) rfl (fun K hK => ?_) AllReadyH.nil
      go_simp
      refine hK.out _ _ ⟨hz7, hrv7⟩ (fun hHeld => ?_)
      clear hK K
      try simp only [Act.put, List.setIfInBounds_toArray, List.set_cons_zero, List.set_cons_succ]
      refine wpAnyH_take (i := 8) (oi := { dst := some 48, op := Op.binOp BinOp.eql 9 (Operand.tmp 45) (Operand.tmp 47) 9, type := 4, pos := "law.go:121", after := #[{ on := 5, ground := Ground.data }, { on := 7, ground := Ground.data }, { on := 2, ground := Ground.guard }], guard := some (2, false) }) (v := ?_) rfl (by kernel_rfl) (by kernel_rfl) (by kernel_rfl) (fun _ _ _ h => h) (Or.inl ⟨by rfl, ?_⟩) (by assumption) ?_
      rotate_left
      focus (intro w hSw; obtain ⟨-, hSw2⟩ := hSw; go_simp; try (with_reducible rfl))
      try simp only [Act.put, List.setIfInBounds_toArray, List.set_cons_zero, List.set_cons_succ]
      refine wpAnyH_take (i := 9) (oi := { dst := some 49, op := Op.move (Operand.tmp 48), type := 4, pos := "law.go:121", after := #[{ on := 8, ground := Ground.data }, { on := 4, ground := Ground.chain }, { on := 2, ground := Ground.guard }], guard := some (2, false) }) (v := ?_) rfl (by kernel_rfl) (by kernel_rfl) (by kernel_rfl) (fun _ _ _ h => h) (Or.inl ⟨by rfl, ?_⟩) (by assumption) ?_
      rotate_left
      focus (intro w hSw; obtain ⟨-, hSw2⟩ := hSw; go_simp; try (with_reducible rfl))
      try simp only [Act.put, List.setIfInBounds_toArray, List.set_cons_zero, List.set_cons_succ]
      refine wpAnyH_take (i := 10) (oi := { dst := some 50, op := Op.move (Operand.tmp 4), type := 22, pos := "law.go:121", after := #[{ on := 9, ground := Ground.guard }], guard := some (9, true) }) (v := ?_) rfl (by kernel_rfl) (by kernel_rfl) (by kernel_rfl) (fun _ _ _ h => h) (Or.inl ⟨by rfl, ?_⟩) (by assumption) ?_
      rotate_left
      focus (intro w hSw; obtain ⟨-, hSw2⟩ := hSw; go_simp; try (with_reducible rfl))
      try simp only [Act.put, List.setIfInBounds_toArray, List.set_cons_zero, List.set_cons_succ]
      refine wpAnyH_ready (rs := [11]) (by kernel_rfl) (by simp) ?_
      refine AllReadyH.cons (o := { dst := some 51, op := Op.call { callee := Callee.value (Operand.func 14), args := #[Operand.tmp 50], argTypes := #[22] }, type := 4, pos := "law.go:121", after := #[{ on := 10, ground := Ground.data }, { on := 9, ground := Ground.chain }, { on := 9, ground := Ground.guard }], guard := some (9, true) }) rfl (fun K hK => ?_) AllReadyH.nil
      go_simp
      go_at_call 14; refine (HRI1.out _ _ HA7.out (HT.out _ hz7)).mono ?_; clear HRI1; rintro e w8 ⟨rfl, hb8⟩; have hz8 : Below w.heap.size w w8 := hz7.trans (hb8.mono hz7.size); have hrv8 := HRV.out w8 hz8; clear hb8
      go_wp2_with fail
      refine hK.out _ _ ⟨hz8, hrv8⟩ (fun hHeld => ?_)
      clear hK K
      try simp only [Act.put, List.setIfInBounds_toArray, List.set_cons_zero, List.set_cons_succ]
      refine wpAnyH_take (i := 12) (oi := { dst := some 52, op := Op.pick (Operand.tmp 49) (Operand.tmp 51) (Operand.const (Value.bool false)), type := 4, pos := "law.go:121", after := #[{ on := 9, ground := Ground.data }, { on := 11, ground := Ground.data }, { on := 2, ground := Ground.guard }], guard := some (2, false) }) (v := ?_) rfl (by kernel_rfl) (by kernel_rfl) (by kernel_rfl) (fun _ _ _ h => h) (Or.inl ⟨by rfl, ?_⟩) (by assumption) ?_
      rotate_left
      focus (intro w hSw; obtain ⟨-, hSw2⟩ := hSw; go_simp; try (with_reducible rfl))
      try simp only [Act.put, List.setIfInBounds_toArray, List.set_cons_zero, List.set_cons_succ]
      refine wpAnyH_take (i := 13) (oi := { dst := some 53, op := Op.pick (Operand.tmp 42) (Operand.const (Value.bool true)) (Operand.tmp 52), type := 4, pos := "law.go:121", after := #[{ on := 2, ground := Ground.data }, { on := 12, ground := Ground.data }], guard := none }) (v := ?_) rfl (by kernel_rfl) (by kernel_rfl) (by kernel_rfl) (fun _ _ _ h => h) (Or.inl ⟨by rfl, ?_⟩) (by assumption) ?_
      rotate_left
      focus (intro w hSw; obtain ⟨-, hSw2⟩ := hSw; go_simp; try (with_reducible rfl))
      try simp only [Act.put, List.setIfInBounds_toArray, List.set_cons_zero, List.set_cons_succ]
      refine wpAnyH_take (i := 14) (oi := { dst := some 54, op := Op.move (Operand.tmp 53), type := 4, pos := "law.go:121", after := #[{ on := 13, ground := Ground.data }, { on := 11, ground := Ground.chain }], guard := none }) (v := ?_) rfl (by kernel_rfl) (by kernel_rfl) (by kernel_rfl) (fun _ _ _ h => h) (Or.inl ⟨by rfl, ?_⟩) (by assumption) ?_
      rotate_left
      focus (intro w hSw; obtain ⟨-, hSw2⟩ := hSw; go_simp; try (with_reducible rfl))
      try simp only [Act.put, List.setIfInBounds_toArray, List.set_cons_zero, List.set_cons_succ]
      refine wpAnyH_ready (rs := [15]) (by kernel_rfl) (by simp) ?_
      refine AllReadyH.cons (o := { dst := some 55, op := Op.call { callee := Callee.value (Operand.func 16), args := #[], argTypes := #[] }, type := 4, pos := "law.go:121", after := #[{ on := 14, ground := Ground.chain }, { on := 14, ground := Ground.guard }], guard := some (14, true) }) rfl (fun K hK => ?_) AllReadyH.nil
      go_simp
      go_at_call 16; refine (HWK.out _ hz8).mono ?_; clear HWK; rintro e w9 ⟨rfl, hz9⟩; have hrv9 := HRV.out w9 hz9
      go_wp2_with fail
      refine hK.out _ _ ⟨hz9, hrv9⟩ (fun hHeld => ?_)
      clear hK K
      try simp only [Act.put, List.setIfInBounds_toArray, List.set_cons_zero, List.set_cons_succ]
      refine wpAnyH_take (i := 16) (oi := { dst := some 56, op := Op.pick (Operand.tmp 54) (Operand.tmp 55) (Operand.const (Value.bool false)), type := 4, pos := "law.go:121", after := #[{ on := 14, ground := Ground.data }, { on := 15, ground := Ground.data }], guard := none }) (v := ?_) rfl (by kernel_rfl) (by kernel_rfl) (by kernel_rfl) (fun _ _ _ h => h) (Or.inl ⟨by rfl, ?_⟩) (by assumption) ?_
      rotate_left
      focus (intro w hSw; obtain ⟨-, hSw2⟩ := hSw; go_simp; try (with_reducible rfl))
      try simp only [Act.put, List.setIfInBounds_toArray, List.set_cons_zero, List.set_cons_succ]
      refine wpAnyH_take (i := 17) (oi := { dst := some 2, op := Op.assign (Operand.tmp 56), type := 4, pos := "law.go:121", after := #[{ on := 16, ground := Ground.data }, { on := 15, ground := Ground.chain }, { on := 0, ground := Ground.phase }, { on := 1, ground := Ground.phase }, { on := 2, ground := Ground.phase }, { on := 3, ground := Ground.phase }, { on := 4, ground := Ground.phase }, { on := 5, ground := Ground.phase }, { on := 6, ground := Ground.phase }, { on := 7, ground := Ground.phase }, { on := 8, ground := Ground.phase }, { on := 9, ground := Ground.phase }, { on := 10, ground := Ground.phase }, { on := 11, ground := Ground.phase }, { on := 12, ground := Ground.phase }, { on := 13, ground := Ground.phase }, { on := 14, ground := Ground.phase }, { on := 15, ground := Ground.phase }, { on := 16, ground := Ground.phase }], guard := none }) (v := ?_) rfl (by kernel_rfl) (by kernel_rfl) (by kernel_rfl) (fun _ _ _ h => h) (Or.inl ⟨by rfl, ?_⟩) (by assumption) ?_
      rotate_left
      focus (intro w hSw; obtain ⟨-, hSw2⟩ := hSw; go_simp; try (with_reducible rfl))
      try simp only [Act.put, List.setIfInBounds_toArray, List.set_cons_zero, List.set_cons_succ]
      refine wpAnyH_done (by kernel_rfl) ?_ _
      go_wp2
      go_ret
      exact ⟨rfl, hz9⟩
    · have hE1 : (E == 0) = false := by rw [beq_eq_false_iff_ne]; exact hE0
      have hE2 : decide (E = 0) = false := decide_eq_false hE0
      have hbC : Cls w w6.drew := HB6.out.drew
      have hwk : ∀ W, Cls w W → Calls Tryd.prog 16 #[] W fun e w' => e = .returned (.bool true) ∧ Cls w w' := fun W hW => HWK.out W hW
      clear HBY HRI HWK HSTR
      refine wp_region_class (C := Cls w) (by kernel_rfl) (by kernel_rfl) hbC ?_
      refine wpQuiet_val ?_ (by rfl) (fun w1 hw1 => ?_) ?_
      rotate_left
      focus (go_simp; rfl)
      simp only [Act.put, List.setIfInBounds_toArray, List.set_cons_zero, List.set_cons_succ]
      refine wpQuiet_val ?_ (by rfl) (fun w1 hw1 => ?_) ?_
      rotate_left
      focus (go_simp; rfl)
      simp only [Act.put, List.setIfInBounds_toArray, List.set_cons_zero, List.set_cons_succ]
      refine wpQuiet_val_skips 10 (.bool true) (by rfl) (fun w1 hw1 => by go_simp) (by kernel_rfl) ?_
      simp only [skipA, List.drop_succ_cons, List.drop_zero, Act.put, List.setIfInBounds_toArray, List.set_cons_zero, List.set_cons_succ]
      refine wpQuiet_val ?_ (by rfl) (fun w1 hw1 => ?_) ?_
      rotate_left
      focus (go_simp; rfl)
      simp only [Act.put, List.setIfInBounds_toArray, List.set_cons_zero, List.set_cons_succ]
      refine wpQuiet_val ?_ (by rfl) (fun w1 hw1 => ?_) ?_
      rotate_left
      focus (go_simp; rfl)
      simp only [Act.put, List.setIfInBounds_toArray, List.set_cons_zero, List.set_cons_succ]
      refine wpQuiet_val ?_ (by rfl) (fun w1 hw1 => ?_) ?_
      rotate_left
      focus (go_simp; exact hwk w1 hw1)
      simp only [Act.put, List.setIfInBounds_toArray, List.set_cons_zero, List.set_cons_succ]
      refine wpQuiet_val ?_ (by rfl) (fun w1 hw1 => ?_) ?_
      rotate_left
      focus (go_simp; rfl)
      simp only [Act.put, List.setIfInBounds_toArray, List.set_cons_zero, List.set_cons_succ]
      refine wpQuiet_val ?_ (by rfl) (fun w1 hw1 => ?_) ?_
      rotate_left
      focus (go_simp; rfl)
      simp only [Act.put, List.setIfInBounds_toArray, List.set_cons_zero, List.set_cons_succ]
      refine wpQuiet_nil ?_
      intro W8 hW8
      have HB8 : Hid (Below w.heap.size w W8) := hW8
      clear hW8
      go_wp2
      go_ret
      exact ⟨rfl, HB8.out⟩
  · go_enter Tryd.func6, Tryd.ntmps6
    go_wp2_with (first
      | (go_at_call 36; refine (HLEND.out _ _ HU.out).mono ?_; clear HLEND; rintro e w2 ⟨g, cg, rfl, hr2, hb2⟩; have HG2 : Hid (w2.ownsRow w.heap.size 5 1 (.slice (some ⟨g, 0, none⟩) (b4.length + 4) cg) (b4.length + 4) (byteVals (b4 ++ marks))) := hr2; have HB2 : Hid (Below w.heap.size w w2) := hb2; have hg2 : w.heap.size ≤ g ∧ g < w2.heap.size := hr2.lt g rfl; clear hr2 hb2)
      | (go_at_call 34; refine (HRD.out _ _ (HLT.out _ _ _ _ HG2.out) (HT.out _ HB2.out)).mono ?_; clear HRD HLT; rintro e w3 ⟨aa, ca, rfl, hr3, hb3⟩; have HA3 : Hid (w3.ownsRow w2.heap.size 51 2 (.slice aa l.length ca) l.length (lbCells l)) := hr3; have HG3 : Hid (w3.ownsRow w.heap.size 5 1 (.slice (some ⟨g, 0, none⟩) (b4.length + 4) cg) (b4.length + 4) (byteVals (b4 ++ marks))) := row_below HG2.out hb3; have HB3 : Hid (Below w.heap.size w w3) := HB2.out.trans (hb3.mono HB2.out.size); have hs23 := hb3.size; clear hr3 hb3 HG2 HB2)
      | (go_at_call 37; refine (HRR.out _ _ (HU.out.below HB3.out)).mono ?_; clear HRR; rintro e w4 ⟨ab, cb, rfl, hr4, hb4⟩; have HC4 : Hid (w4.ownsRow w3.heap.size 51 2 (.slice ab l.length cb) l.length (lbCells l)) := hr4; have HA4 : Hid (w4.ownsRow w2.heap.size 51 2 (.slice aa l.length ca) l.length (lbCells l)) := row_below HA3.out hb4; have HG4 : Hid (w4.ownsRow w.heap.size 5 1 (.slice (some ⟨g, 0, none⟩) (b4.length + 4) cg) (b4.length + 4) (byteVals (b4 ++ marks))) := row_below HG3.out hb4; have HB4 : Hid (Below w.heap.size w w4) := HB3.out.trans (hb4.mono HB3.out.size); clear hr4 hb4 HG3 HB3 HA3)
      | (go_at_call 38; refine (HINT.out _ _ _ _ _ HG4.out (HU.out.below HB4.out)).mono ?_; clear HINT; rintro e w5 ⟨rfl, hk5⟩; have HA5 : Hid (w5.ownsRow w2.heap.size 51 2 (.slice aa l.length ca) l.length (lbCells l)) := hk5.ownsRow HA4.out (fun k h1 h2 => by have := (HA4.out.lt k h1).1; omega); have HC5 : Hid (w5.ownsRow w3.heap.size 51 2 (.slice ab l.length cb) l.length (lbCells l)) := hk5.ownsRow HC4.out (fun k h1 h2 => by have := (HC4.out.lt k h1).1; omega); have HB5 : Hid (Below w.heap.size w w5) := HB4.out.trans (hk5.toBelow HB4.out.size (fun i hi => by omega)); clear hk5 HA4 HC4 HG4 HB4)
      | (go_at_call 13; refine (HEQ.out _ _ _ (LabsAt.of_row HA5.out) (LabsAt.of_row HC5.out)).mono ?_; clear HEQ; rintro e w6 ⟨rfl, hb6⟩; have HA6 : Hid (LabsAt w6 (.slice aa l.length ca) l) := LabsAt.of_row (row_below HA5.out hb6); have HB6 : Hid (Below w.heap.size w w6) := HB5.out.trans (hb6.mono HB5.out.size); clear hb6 HA5 HC5 HB5))
    by_cases hE0 : E = 0
    · subst hE0
      have HBY1 : Hid _ := HBY.out rfl
      have HRI1 : Hid _ := HRI.out rfl
      clear HBY HRI
      have HRV : Hid (∀ W, Below w.heap.size w W → (convert 38 9 (.slice a b4.length c)).run Tryd.prog W = .ok (.string tx) W) := fun W hW => HSTR.out _ _ (HU.out.below hW)
      have hD : Below w6.heap.size w6 w6.drew := (Below.refl _ _).drew
      have hS6 : Below w.heap.size w w6.drew := HB6.out.drew
      have hrv6 := HRV.out _ hS6
      refine wp_region_held_drew (S := fun w' => Below w.heap.size w w' ∧ (convert 38 9 (.slice a b4.length c)).run Tryd.prog w' = .ok (.string tx) w') (by kernel_rfl) ⟨hS6, hrv6⟩ (fun hHeld => ?_)
      refine wpAnyH_take (i := 0) (oi := { dst := some 40, op := Op.move (Operand.tmp 5), type := 24, pos := "law.go:121", after := #[], guard := none }) (v := ?_) rfl (by kernel_rfl) (by kernel_rfl) (by kernel_rfl) (fun _ _ _ h => h) (Or.inl ⟨by rfl, ?_⟩) (by assumption) ?_
      rotate_left
      focus (intro w hSw; obtain ⟨-, hSw2⟩ := hSw; go_simp; try (with_reducible rfl))
      try simp only [Act.put, List.setIfInBounds_toArray, List.set_cons_zero, List.set_cons_succ]
      refine wpAnyH_take (i := 1) (oi := { dst := some 41, op := Op.binOp BinOp.neq 24 (Operand.tmp 40) (Operand.const (Value.int IntKind.i64 0)) 24, type := 4, pos := "law.go:121", after := #[{ on := 0, ground := Ground.data }], guard := none }) (v := ?_) rfl (by kernel_rfl) (by kernel_rfl) (by kernel_rfl) (fun _ _ _ h => h) (Or.inl ⟨by rfl, ?_⟩) (by assumption) ?_
      rotate_left
      focus (intro w hSw; obtain ⟨-, hSw2⟩ := hSw; go_simp; try (with_reducible rfl))
      try simp only [Act.put, List.setIfInBounds_toArray, List.set_cons_zero, List.set_cons_succ]
      refine wpAnyH_take (i := 2) (oi := { dst := some 42, op := Op.move (Operand.tmp 41), type := 4, pos := "law.go:121", after := #[{ on := 1, ground := Ground.data }], guard := none }) (v := ?_) rfl (by kernel_rfl) (by kernel_rfl) (by kernel_rfl) (fun _ _ _ h => h) (Or.inl ⟨by rfl, ?_⟩) (by assumption) ?_
      rotate_left
      focus (intro w hSw; obtain ⟨-, hSw2⟩ := hSw; go_simp; try (with_reducible rfl))
      try simp only [Act.put, List.setIfInBounds_toArray, List.set_cons_zero, List.set_cons_succ]
      refine wpAnyH_take (i := 3) (oi := { dst := some 43, op := Op.move (Operand.tmp 4), type := 22, pos := "law.go:121", after := #[{ on := 2, ground := Ground.guard }], guard := some (2, false) }) (v := ?_) rfl (by kernel_rfl) (by kernel_rfl) (by kernel_rfl) (fun _ _ _ h => h) (Or.inl ⟨by rfl, ?_⟩) (by assumption) ?_
      rotate_left
      focus (intro w hSw; obtain ⟨-, hSw2⟩ := hSw; go_simp; try (with_reducible rfl))
      try simp only [Act.put, List.setIfInBounds_toArray, List.set_cons_zero, List.set_cons_succ]
      refine wpAnyH_take (i := 6) (oi := { dst := some 46, op := Op.move (Operand.tmp 0), type := 38, pos := "law.go:121", after := #[{ on := 2, ground := Ground.guard }], guard := some (2, false) }) (v := ?_) rfl (by kernel_rfl) (by kernel_rfl) (by kernel_rfl) (fun _ _ _ h => h) (Or.inl ⟨by rfl, ?_⟩) (by assumption) ?_
      rotate_left
      focus (intro w hSw; obtain ⟨-, hSw2⟩ := hSw; go_simp; try (with_reducible rfl))
      try simp only [Act.put, List.setIfInBounds_toArray, List.set_cons_zero, List.set_cons_succ]
      refine wpAnyH_take (i := 7) (oi := { dst := some 47, op := Op.convert 38 9 (Operand.tmp 46), type := 9, pos := "law.go:121", after := #[{ on := 6, ground := Ground.data }, { on := 2, ground := Ground.guard }], guard := some (2, false) }) (v := ?_) rfl (by kernel_rfl) (by kernel_rfl) (by kernel_rfl) (fun _ _ _ h => h) (Or.inl ⟨by rfl, ?_⟩) (by assumption) ?_
      rotate_left
      focus (intro w hSw; obtain ⟨-, hSw2⟩ := hSw; go_simp; try (with_reducible rfl))
      try simp only [Act.put, List.setIfInBounds_toArray, List.set_cons_zero, List.set_cons_succ]
      refine wpAnyH_ready (rs := [4]) (by kernel_rfl) (by simp) ?_
      refine AllReadyH.cons (o := { dst := some 44, op := Op.call { callee := Callee.value (Operand.func 30), args := #[Operand.tmp 43], argTypes := #[22] }, type := 38, pos := "law.go:121", after := #[{ on := 3, ground := Ground.data }, { on := 2, ground := Ground.chain }, { on := 2, ground := Ground.guard }], guard := some (2, false) }) rfl (fun K hK => ?_) AllReadyH.nil
      go_simp
      go_at_call 30; refine (HBY1.out _ _ (HA6.out.below hD)).mono ?_; clear HBY1; rintro e w7 ⟨ax, cx, rfl, hcv7, hb7⟩; have hz7 : Below w.heap.size w w7 := hS6.trans (hb7.mono hS6.size); have HA7 : Hid (LabsAt w7 (.slice aa l.length ca) l) := (HA6.out.below hD).below hb7; have hrv7 := HRV.out w7 hz7; clear hb7
      go_wp2_with fail
      refine hK.out _ _ ⟨hz7, hrv7⟩ (fun hHeld => ?_)
      clear hK K
      try simp only [Act.put, List.setIfInBounds_toArray, List.set_cons_zero, List.set_cons_succ]
      refine wpAnyH_ready (rs := [5]) (by kernel_rfl) (by simp) ?_
      refine AllReadyH.cons (o := { dst := some 45, op := Op.convert 38 9 (Operand.tmp 44), type := 9, pos := "law.go:121", after := #[{ on := 4, ground := Ground.data }, { on := 2, ground := Ground.guard }], guard := some (2, false) }) rfl (fun K hK => ?_) AllReadyH.nil
      go_simp
      refine hK.out _ _ ⟨hz7, hrv7⟩ (fun hHeld => ?_)
      clear hK K
      try simp only [Act.put, List.setIfInBounds_toArray, List.set_cons_zero, List.set_cons_succ]
      refine wpAnyH_take (i := 8) (oi := { dst := some 48, op := Op.binOp BinOp.eql 9 (Operand.tmp 45) (Operand.tmp 47) 9, type := 4, pos := "law.go:121", after := #[{ on := 5, ground := Ground.data }, { on := 7, ground := Ground.data }, { on := 2, ground := Ground.guard }], guard := some (2, false) }) (v := ?_) rfl (by kernel_rfl) (by kernel_rfl) (by kernel_rfl) (fun _ _ _ h => h) (Or.inl ⟨by rfl, ?_⟩) (by assumption) ?_
      rotate_left
      focus (intro w hSw; obtain ⟨-, hSw2⟩ := hSw; go_simp; try (with_reducible rfl))
      try simp only [Act.put, List.setIfInBounds_toArray, List.set_cons_zero, List.set_cons_succ]
      refine wpAnyH_take (i := 9) (oi := { dst := some 49, op := Op.move (Operand.tmp 48), type := 4, pos := "law.go:121", after := #[{ on := 8, ground := Ground.data }, { on := 4, ground := Ground.chain }, { on := 2, ground := Ground.guard }], guard := some (2, false) }) (v := ?_) rfl (by kernel_rfl) (by kernel_rfl) (by kernel_rfl) (fun _ _ _ h => h) (Or.inl ⟨by rfl, ?_⟩) (by assumption) ?_
      rotate_left
      focus (intro w hSw; obtain ⟨-, hSw2⟩ := hSw; go_simp; try (with_reducible rfl))
      try simp only [Act.put, List.setIfInBounds_toArray, List.set_cons_zero, List.set_cons_succ]
      refine wpAnyH_take (i := 10) (oi := { dst := some 50, op := Op.move (Operand.tmp 4), type := 22, pos := "law.go:121", after := #[{ on := 9, ground := Ground.guard }], guard := some (9, true) }) (v := ?_) rfl (by kernel_rfl) (by kernel_rfl) (by kernel_rfl) (fun _ _ _ h => h) (Or.inl ⟨by rfl, ?_⟩) (by assumption) ?_
      rotate_left
      focus (intro w hSw; obtain ⟨-, hSw2⟩ := hSw; go_simp; try (with_reducible rfl))
      try simp only [Act.put, List.setIfInBounds_toArray, List.set_cons_zero, List.set_cons_succ]
      refine wpAnyH_ready (rs := [11]) (by kernel_rfl) (by simp) ?_
      refine AllReadyH.cons (o := { dst := some 51, op := Op.call { callee := Callee.value (Operand.func 14), args := #[Operand.tmp 50], argTypes := #[22] }, type := 4, pos := "law.go:121", after := #[{ on := 10, ground := Ground.data }, { on := 9, ground := Ground.chain }, { on := 9, ground := Ground.guard }], guard := some (9, true) }) rfl (fun K hK => ?_) AllReadyH.nil
      go_simp
      go_at_call 14; refine (HRI1.out _ _ HA7.out (HT.out _ hz7)).mono ?_; clear HRI1; rintro e w8 ⟨rfl, hb8⟩; have hz8 : Below w.heap.size w w8 := hz7.trans (hb8.mono hz7.size); have hrv8 := HRV.out w8 hz8; clear hb8
      go_wp2_with fail
      refine hK.out _ _ ⟨hz8, hrv8⟩ (fun hHeld => ?_)
      clear hK K
      try simp only [Act.put, List.setIfInBounds_toArray, List.set_cons_zero, List.set_cons_succ]
      refine wpAnyH_take (i := 12) (oi := { dst := some 52, op := Op.pick (Operand.tmp 49) (Operand.tmp 51) (Operand.const (Value.bool false)), type := 4, pos := "law.go:121", after := #[{ on := 9, ground := Ground.data }, { on := 11, ground := Ground.data }, { on := 2, ground := Ground.guard }], guard := some (2, false) }) (v := ?_) rfl (by kernel_rfl) (by kernel_rfl) (by kernel_rfl) (fun _ _ _ h => h) (Or.inl ⟨by rfl, ?_⟩) (by assumption) ?_
      rotate_left
      focus (intro w hSw; obtain ⟨-, hSw2⟩ := hSw; go_simp; try (with_reducible rfl))
      try simp only [Act.put, List.setIfInBounds_toArray, List.set_cons_zero, List.set_cons_succ]
      refine wpAnyH_take (i := 13) (oi := { dst := some 53, op := Op.pick (Operand.tmp 42) (Operand.const (Value.bool true)) (Operand.tmp 52), type := 4, pos := "law.go:121", after := #[{ on := 2, ground := Ground.data }, { on := 12, ground := Ground.data }], guard := none }) (v := ?_) rfl (by kernel_rfl) (by kernel_rfl) (by kernel_rfl) (fun _ _ _ h => h) (Or.inl ⟨by rfl, ?_⟩) (by assumption) ?_
      rotate_left
      focus (intro w hSw; obtain ⟨-, hSw2⟩ := hSw; go_simp; try (with_reducible rfl))
      try simp only [Act.put, List.setIfInBounds_toArray, List.set_cons_zero, List.set_cons_succ]
      refine wpAnyH_take (i := 14) (oi := { dst := some 54, op := Op.move (Operand.tmp 53), type := 4, pos := "law.go:121", after := #[{ on := 13, ground := Ground.data }, { on := 11, ground := Ground.chain }], guard := none }) (v := ?_) rfl (by kernel_rfl) (by kernel_rfl) (by kernel_rfl) (fun _ _ _ h => h) (Or.inl ⟨by rfl, ?_⟩) (by assumption) ?_
      rotate_left
      focus (intro w hSw; obtain ⟨-, hSw2⟩ := hSw; go_simp; try (with_reducible rfl))
      try simp only [Act.put, List.setIfInBounds_toArray, List.set_cons_zero, List.set_cons_succ]
      refine wpAnyH_ready (rs := [15]) (by kernel_rfl) (by simp) ?_
      refine AllReadyH.cons (o := { dst := some 55, op := Op.call { callee := Callee.value (Operand.func 16), args := #[], argTypes := #[] }, type := 4, pos := "law.go:121", after := #[{ on := 14, ground := Ground.chain }, { on := 14, ground := Ground.guard }], guard := some (14, true) }) rfl (fun K hK => ?_) AllReadyH.nil
      go_simp
      go_at_call 16; refine (HWK.out _ hz8).mono ?_; clear HWK; rintro e w9 ⟨rfl, hz9⟩; have hrv9 := HRV.out w9 hz9
      go_wp2_with fail
      refine hK.out _ _ ⟨hz9, hrv9⟩ (fun hHeld => ?_)
      clear hK K
      try simp only [Act.put, List.setIfInBounds_toArray, List.set_cons_zero, List.set_cons_succ]
      refine wpAnyH_take (i := 16) (oi := { dst := some 56, op := Op.pick (Operand.tmp 54) (Operand.tmp 55) (Operand.const (Value.bool false)), type := 4, pos := "law.go:121", after := #[{ on := 14, ground := Ground.data }, { on := 15, ground := Ground.data }], guard := none }) (v := ?_) rfl (by kernel_rfl) (by kernel_rfl) (by kernel_rfl) (fun _ _ _ h => h) (Or.inl ⟨by rfl, ?_⟩) (by assumption) ?_
      rotate_left
      focus (intro w hSw; obtain ⟨-, hSw2⟩ := hSw; go_simp; try (with_reducible rfl))
      try simp only [Act.put, List.setIfInBounds_toArray, List.set_cons_zero, List.set_cons_succ]
      refine wpAnyH_take (i := 17) (oi := { dst := some 2, op := Op.assign (Operand.tmp 56), type := 4, pos := "law.go:121", after := #[{ on := 16, ground := Ground.data }, { on := 15, ground := Ground.chain }, { on := 0, ground := Ground.phase }, { on := 1, ground := Ground.phase }, { on := 2, ground := Ground.phase }, { on := 3, ground := Ground.phase }, { on := 4, ground := Ground.phase }, { on := 5, ground := Ground.phase }, { on := 6, ground := Ground.phase }, { on := 7, ground := Ground.phase }, { on := 8, ground := Ground.phase }, { on := 9, ground := Ground.phase }, { on := 10, ground := Ground.phase }, { on := 11, ground := Ground.phase }, { on := 12, ground := Ground.phase }, { on := 13, ground := Ground.phase }, { on := 14, ground := Ground.phase }, { on := 15, ground := Ground.phase }, { on := 16, ground := Ground.phase }], guard := none }) (v := ?_) rfl (by kernel_rfl) (by kernel_rfl) (by kernel_rfl) (fun _ _ _ h => h) (Or.inl ⟨by rfl, ?_⟩) (by assumption) ?_
      rotate_left
      focus (intro w hSw; obtain ⟨-, hSw2⟩ := hSw; go_simp; try (with_reducible rfl))
      try simp only [Act.put, List.setIfInBounds_toArray, List.set_cons_zero, List.set_cons_succ]
      refine wpAnyH_done (by kernel_rfl) ?_ _
      go_wp2
      go_ret
      exact ⟨rfl, hz9⟩
    · have hE1 : (E == 0) = false := by rw [beq_eq_false_iff_ne]; exact hE0
      have hE2 : decide (E = 0) = false := decide_eq_false hE0
      have hbC : Cls w w6.drew := HB6.out.drew
      have hwk : ∀ W, Cls w W → Calls Tryd.prog 16 #[] W fun e w' => e = .returned (.bool true) ∧ Cls w w' := fun W hW => HWK.out W hW
      clear HBY HRI HWK HSTR
      refine wp_region_class (C := Cls w) (by kernel_rfl) (by kernel_rfl) hbC ?_
      refine wpQuiet_val ?_ (by rfl) (fun w1 hw1 => ?_) ?_
      rotate_left
      focus (go_simp; rfl)
      simp only [Act.put, List.setIfInBounds_toArray, List.set_cons_zero, List.set_cons_succ]
      refine wpQuiet_val ?_ (by rfl) (fun w1 hw1 => ?_) ?_
      rotate_left
      focus (go_simp; rfl)
      simp only [Act.put, List.setIfInBounds_toArray, List.set_cons_zero, List.set_cons_succ]
      refine wpQuiet_val_skips 10 (.bool true) (by rfl) (fun w1 hw1 => by go_simp) (by kernel_rfl) ?_
      simp only [skipA, List.drop_succ_cons, List.drop_zero, Act.put, List.setIfInBounds_toArray, List.set_cons_zero, List.set_cons_succ]
      refine wpQuiet_val ?_ (by rfl) (fun w1 hw1 => ?_) ?_
      rotate_left
      focus (go_simp; rfl)
      simp only [Act.put, List.setIfInBounds_toArray, List.set_cons_zero, List.set_cons_succ]
      refine wpQuiet_val ?_ (by rfl) (fun w1 hw1 => ?_) ?_
      rotate_left
      focus (go_simp; rfl)
      simp only [Act.put, List.setIfInBounds_toArray, List.set_cons_zero, List.set_cons_succ]
      refine wpQuiet_val ?_ (by rfl) (fun w1 hw1 => ?_) ?_
      rotate_left
      focus (go_simp; exact hwk w1 hw1)
      simp only [Act.put, List.setIfInBounds_toArray, List.set_cons_zero, List.set_cons_succ]
      refine wpQuiet_val ?_ (by rfl) (fun w1 hw1 => ?_) ?_
      rotate_left
      focus (go_simp; rfl)
      simp only [Act.put, List.setIfInBounds_toArray, List.set_cons_zero, List.set_cons_succ]
      refine wpQuiet_val ?_ (by rfl) (fun w1 hw1 => ?_) ?_
      rotate_left
      focus (go_simp; rfl)
      simp only [Act.put, List.setIfInBounds_toArray, List.set_cons_zero, List.set_cons_succ]
      refine wpQuiet_nil ?_
      intro W8 hW8
      have HB8 : Hid (Below w.heap.size w W8) := hW8
      clear hW8
      go_wp2
      go_ret
      exact ⟨rfl, HB8.out⟩

end Go.Proofs.YtobkomfeojhhbaaDoor
