/- LabelsBytes, walked. -/
import Derived.Test.YtobkomfeojhhbaaDoorOc
import Derived.Test.YtobkomfeojhhbaaDoorOb
import Derived.Test.YtobkomfeojhhbaaDoorOe
import Derived.Test.YtobkomfeojhhbaaDoorLpa
import Derived.Test.YtobkomfeojhhbaaDoorLh
import Derived.Deep.RegionHeld3
namespace Go.Proofs.YtobkomfeojhhbaaDoor
open Go.RowKit Go.Maps

theorem bytes_text_eq (a b : List UInt8) : ((⟨a.toArray⟩ : ByteArray).toList == (⟨b.toArray⟩ : ByteArray).toList) = decide (a = b) := by
  rw [ByteArray.toList_eq, ByteArray.toList_eq]
  rw [Bool.eq_iff_iff, beq_iff_eq, decide_eq_true_iff]

theorem step_call1g (w : World) {P : Program} {ops : Array Oper} {o : Oper} {a : Act} {K : Act → World → Prop} {Q : Exit → Act → World → Prop} {E : Prop} (hw : Region.wanted o (yielded ops a.tmps) = true) (f : Nat) (x : Operand) (t : TypeId)
    (ho : o.op = .call { callee := .value (.func f), args := #[x], argTypes := #[t] }) (v : Value) (hx : a.eval x = v) (he : ∀ args w, (callFunc f args).run P w = .ok (.enter f args) w) (R : Value → World → Prop)
    (hc : Calls P f #[v] w fun e w' => ∃ u, e = .returned u ∧ R u w') (h : ∀ u w', R u w' → K (a.put o.dst u) w') :
    if Region.wanted o (yielded ops a.tmps) = true then Oper.wp P o a w K Q else E := by
  rw [if_pos hw]
  have hfn : a.eval (.func f) = .func (.func f) #[] #[] := rfl
  unfold Oper.wp execOp
  simp only [ho, resolve, hfn, hx, Sem.run_bind, List.map_toArray, List.map_cons, List.map_nil]
  simp only [Deferred.ofValue, invoke, Sem.run_pure, Result.andThen_ok, Array.append_empty, he]
  refine hc.mono ?_
  rintro e w' ⟨u, rfl, hu⟩
  exact h u w' hu
theorem step_call2g (w : World) {P : Program} {ops : Array Oper} {o : Oper} {a : Act} {K : Act → World → Prop} {Q : Exit → Act → World → Prop} {E : Prop} (hw : Region.wanted o (yielded ops a.tmps) = true) (f : Nat) (x y : Operand) (t s : TypeId)
    (ho : o.op = .call { callee := .value (.func f), args := #[x, y], argTypes := #[t, s] }) (v u : Value) (hx : a.eval x = v) (hy : a.eval y = u) (he : ∀ args w, (callFunc f args).run P w = .ok (.enter f args) w) (R : Value → World → Prop)
    (hc : Calls P f #[v, u] w fun e w' => ∃ z, e = .returned z ∧ R z w') (h : ∀ z w', R z w' → K (a.put o.dst z) w') :
    if Region.wanted o (yielded ops a.tmps) = true then Oper.wp P o a w K Q else E := by
  rw [if_pos hw]
  have hfn : a.eval (.func f) = .func (.func f) #[] #[] := rfl
  unfold Oper.wp execOp
  simp only [ho, resolve, hfn, hx, hy, Sem.run_bind, List.map_toArray, List.map_cons, List.map_nil]
  simp only [Deferred.ofValue, invoke, Sem.run_pure, Result.andThen_ok, Array.append_empty, he]
  refine hc.mono ?_
  rintro e w' ⟨z, rfl, hz⟩
  exact h z w' hz

set_option maxRecDepth 100000 in
set_option maxHeartbeats 6000000 in
theorem bytesLaw_any (v u : Value) (ls ms : List Lb) (w : World) (h : LabsAt w v ls) (hsz : Sized ls) (hm : LabsAt w u ms) (hsm : Sized ms) (hT : Tabs w) :
    Calls Tryd.prog 5 #[v, u] w fun e w' => e = .returned (.bool true) ∧ Below w.heap.size w w' := by
  have hset1 := set_any v ls w h hsz
  have HSET2 : Hid (∀ W, Below w.heap.size w W → Calls Tryd.prog 17 #[u] W fun e w' => ∃ v', e = .returned v' ∧ w'.ownsRow W.heap.size 51 2 v' (setL ms).length (lbCells (setL ms)) ∧ Below W.heap.size W w') := fun W hW => set_any u ms W (hm.below hW) hsm
  have hx := setL_right ls
  have hy := setL_right ms
  obtain ⟨a, c, rfl, -, -⟩ := id h
  obtain ⟨am, cm, rfl, -, -⟩ := id hm
  generalize setL ls = x at *
  generalize setL ms = y at *
  have hx64 := ((rightS_iff x).1 hx).1
  have hy64 := ((rightS_iff y).1 hy).1
  have hxs := right_Short hx
  have hys := right_Short hy
  have hbxl := bytesL_length (by omega) hxs
  have hbyl := bytesL_length (by omega) hys
  have HBX : Hid (∀ V W, LabsAt W V x → Calls Tryd.prog 30 #[V] W fun e w' => ∃ a c, e = .returned (.slice a (bytesL x).length c) ∧ Row w' W.heap.size (.slice a (bytesL x).length c) (bytesL x) ∧ Below W.heap.size W w') := fun V W hV => (bytes_any V x W hV (by omega) hxs).mono fun e w' ⟨v', he, hr, hb⟩ => by
    obtain ⟨a, c, rfl⟩ := slice_of_row hr
    exact ⟨a, c, he, hr, hb⟩
  have HBX2 : Hid _ := HBX.out
  have HRB2 : Hid (∀ V W, LabsAt W V x → Calls Tryd.prog 31 #[V] W fun e w' => ∃ a c, e = .returned (.slice a (bytesL x).length c) ∧ Row w' W.heap.size (.slice a (bytesL x).length c) (bytesL x) ∧ Below W.heap.size W w') := fun V W hV => (refBytes_any V x W hV (by omega) hxs).mono fun e w' ⟨v', he, hr, hb⟩ => by
    obtain ⟨a, c, rfl⟩ := slice_of_row hr
    exact ⟨a, c, he, hr, hb⟩
  have HBY : Hid (∀ V W, LabsAt W V y → Calls Tryd.prog 30 #[V] W fun e w' => ∃ a c, e = .returned (.slice a (bytesL y).length c) ∧ Row w' W.heap.size (.slice a (bytesL y).length c) (bytesL y) ∧ Below W.heap.size W w') := fun V W hV => (bytes_any V y W hV (by omega) hys).mono fun e w' ⟨v', he, hr, hb⟩ => by
    obtain ⟨a, c, rfl⟩ := slice_of_row hr
    exact ⟨a, c, he, hr, hb⟩
  have HRB : Hid (∀ V W, LabsAt W V x → Calls Tryd.prog 31 #[V] W fun e w' => ∃ a c, e = .returned (.slice a (bytesL x).length c) ∧ Row w' W.heap.size (.slice a (bytesL x).length c) (bytesL x) ∧ Below W.heap.size W w') := fun V W hV => (refBytes_any V x W hV (by omega) hxs).mono fun e w' ⟨v', he, hr, hb⟩ => by
    obtain ⟨a, c, rfl⟩ := slice_of_row hr
    exact ⟨a, c, he, hr, hb⟩
  have HHA : Hid (∀ V W, LabsAt W V x → Calls Tryd.prog 32 #[V] W fun e w' => e = .returned (.int .u64 (sumL (bytesL x))) ∧ Below W.heap.size W w') := fun V W hV => hash_any V x W hV (by omega) hxs
  have HRH : Hid (∀ V W, LabsAt W V x → Calls Tryd.prog 33 #[V] W fun e w' => e = .returned (.int .u64 (sumL (bytesL x))) ∧ Below W.heap.size W w') := fun V W hV => refHash_any V x W hV (by omega) hxs
  have HEQ : Hid (∀ V V' W, LabsAt W V x → LabsAt W V' y → Calls Tryd.prog 13 #[V, V'] W fun e w' => e = .returned (.bool (decide (x = y))) ∧ Below W.heap.size W w') := fun V V' W h1 h2 => (alike_any V V' x y W h1 h2 (by omega) (by omega)).mono fun e w' ⟨he, q, hq⟩ => ⟨he, by rw [hq]; exact below_drewN (Below.refl _ _) q⟩
  have HEX : Hid (∀ V V' W, LabsAt W V x → LabsAt W V' x → Calls Tryd.prog 13 #[V, V'] W fun e w' => e = .returned (.bool true) ∧ Below W.heap.size W w') := fun V V' W h1 h2 => (alike_any V V' x x W h1 h2 (by omega) (by omega)).mono fun e w' ⟨he, q, hq⟩ => ⟨by rw [he]; simp [eqL], by rw [hq]; exact below_drewN (Below.refl _ _) q⟩
  have HRD : Hid (∀ V W, BytesAt W V (bytesL x) → Tabs W → Calls Tryd.prog 34 #[V] W fun e w' => ∃ a c, e = .returned (.tuple #[.slice a x.length c, .int .i64 0]) ∧ LabsAt w' (.slice a x.length c) x ∧ Below W.heap.size W w') := fun V W hV ht => (read_any V (bytesL x) W hV hbxl ht).mono fun e w' ⟨v', he, hr, hb⟩ => by
    rw [readR_bytes hx] at he hr
    obtain ⟨a, c, rfl⟩ := slice_of_row hr
    exact ⟨a, c, he, LabsAt.of_row hr, hb⟩
  have HSP : Hid (∀ V base W, Row W base V (bytesL x) → base ≤ W.heap.size → Calls Tryd.prog 35 #[V] W fun e w' => e = .returned (.tuple #[]) ∧ Kept (fun k => V.ownBlock = some k) W w') := fun V base W h1 h2 => spoilB_any base V (bytesL x) W h1 (by omega) h2
  have HWK : Hid (∀ W, Below w.heap.size w W → Calls Tryd.prog 16 #[] W fun e w' => e = .returned (.bool true) ∧ Below w.heap.size w w') := fun W hW => (wakes_any W (hT.below hW)).mono fun e w' ⟨he, hb⟩ => ⟨he, hW.trans (hb.mono hW.size)⟩
  have HT : Hid (∀ W, Below w.heap.size w W → Tabs W) := fun W hW => hT.below hW
  have hxy : ((⟨(bytesL x).toArray⟩ : ByteArray).toList == (⟨(bytesL y).toArray⟩ : ByteArray).toList) = decide (x = y) := by
    rw [bytes_text_eq]
    exact decide_eq_decide.2 (bytesL_inj hx hy)
  generalize decide (x = y) = D at *
  generalize sumL (bytesL x) = hsx at *
  generalize bytesL x = bx at *
  generalize bytesL y = b2 at *
  clear h hm hsz hsm hT hx hy hxs hys
  have hstrx : Hid (∀ V W, BytesAt W V bx → (convert 38 9 V).run Tryd.prog W = .ok (.string ⟨bx.toArray⟩) W) := fun V W hV => hV.str
  have hstry : Hid (∀ V W, BytesAt W V b2 → (convert 38 9 V).run Tryd.prog W = .ok (.string ⟨b2.toArray⟩) W) := fun V W hV => hV.str
  generalize (⟨bx.toArray⟩ : ByteArray) = tx at *
  generalize (⟨b2.toArray⟩ : ByteArray) = ty at *
  go_enter Tryd.func5, Tryd.ntmps5
  go_wp2_with (first
    | (go_at_call 17; refine hset1.mono ?_; clear hset1; rintro e w1 ⟨v1, rfl, hr1, hb1⟩; obtain ⟨sa, cs, rfl⟩ := slice_of_row hr1; have HX1 : Hid (LabsAt w1 (.slice sa x.length cs) x) := LabsAt.of_row hr1; have HB1 : Hid (Below w.heap.size w w1) := hb1; clear hr1 hb1)
    | (go_at_call 17; refine (HSET2.out _ HB1.out).mono ?_; clear HSET2; rintro e w2 ⟨v2, rfl, hr2, hb2⟩; obtain ⟨sb, ct, rfl⟩ := slice_of_row hr2; have HX2 : Hid (LabsAt w2 (.slice sa x.length cs) x) := HX1.out.below hb2; have HY2 : Hid (LabsAt w2 (.slice sb y.length ct) y) := LabsAt.of_row hr2; have HB2 : Hid (Below w.heap.size w w2) := HB1.out.trans (hb2.mono HB1.out.size); clear hr2 hb2 HX1 HB1)
    | (go_at_call 30; refine (HBX.out _ _ HX2.out).mono ?_; clear HBX; rintro e w3 ⟨ap, cp, rfl, hr3, hb3⟩; have HP3 : Hid (Row w3 w2.heap.size (.slice ap bx.length cp) bx) := hr3; have HZ3 : Hid (Below w2.heap.size w2 w3) := hb3; clear hr3 hb3)
    | (go_at_call 30; refine (HBY.out _ _ (HY2.out.below HZ3.out)).mono ?_; clear HBY; rintro e w4 ⟨aq, cq, rfl, hr4, hb4⟩; have HQ4 : Hid (BytesAt w4 (.slice aq b2.length cq) b2) := BytesAt.of_row hr4; have HP4 : Hid (Row w4 w2.heap.size (.slice ap bx.length cp) bx) := row_below HP3.out hb4; have HZ4 : Hid (Below w2.heap.size w2 w4) := HZ3.out.trans (hb4.mono HZ3.out.size); clear hr4 hb4 HP3 HZ3))
  have HX4 : Hid (LabsAt w4 (.slice sa x.length cs) x) := HX2.out.below HZ4.out
  have HY4 : Hid (LabsAt w4 (.slice sb y.length ct) y) := HY2.out.below HZ4.out
  have HCV : Hid (∀ W, Below w4.heap.size w4 W → (convert 38 9 (.slice ap bx.length cp)).run Tryd.prog W = .ok (.string tx) W ∧ (convert 38 9 (.slice aq b2.length cq)).run Tryd.prog W = .ok (.string ty) W) := fun W hW => ⟨hstrx.out _ _ ((BytesAt.of_row HP4.out).below hW), hstry.out _ _ (HQ4.out.below hW)⟩
  have HBD : Hid (Below w4.heap.size w4 w4.drew) := (Below.refl _ _).drew
  obtain ⟨k0, k1⟩ := HCV.out w4 (Below.refl _ _)
  obtain ⟨k2, k3⟩ := HCV.out w4.drew HBD.out
  refine wp_region_held_drew (S := fun w' => (convert 38 9 (.slice ap bx.length cp)).run Tryd.prog w' = .ok (.string tx) w' ∧ (convert 38 9 (.slice aq b2.length cq)).run Tryd.prog w' = .ok (.string ty) w') (by kernel_rfl) ⟨k2, k3⟩ (fun hHeld => ?_)
  refine wpAnyH_take (i := 0) (oi := { dst := some 19, op := Op.move (Operand.tmp 7), type := 38, pos := "law.go:99", after := #[], guard := none }) (v := ?_) rfl (by kernel_rfl) (by kernel_rfl) (by kernel_rfl) (fun _ _ _ h => h) (Or.inl ⟨by rfl, ?_⟩) (by assumption) ?_
  rotate_left
  focus (intro w hSw; (try dsimp only at hSw); go_simp; try (with_reducible rfl))
  try simp only [Act.put, List.setIfInBounds_toArray, List.set_cons_zero, List.set_cons_succ]
  refine wpAnyH_take (i := 1) (oi := { dst := some 20, op := Op.convert 38 9 (Operand.tmp 19), type := 9, pos := "law.go:99", after := #[{ on := 0, ground := Ground.data }], guard := none }) (v := ?_) rfl (by kernel_rfl) (by kernel_rfl) (by kernel_rfl) (fun _ _ _ h => h) (Or.inl ⟨by rfl, ?_⟩) (by assumption) ?_
  rotate_left
  focus (intro w hSw; (try dsimp only at hSw); go_simp; try (with_reducible rfl))
  try simp only [Act.put, List.setIfInBounds_toArray, List.set_cons_zero, List.set_cons_succ]
  refine wpAnyH_take (i := 2) (oi := { dst := some 21, op := Op.move (Operand.tmp 5), type := 22, pos := "law.go:99", after := #[], guard := none }) (v := ?_) rfl (by kernel_rfl) (by kernel_rfl) (by kernel_rfl) (fun _ _ _ h => h) (Or.inl ⟨by rfl, ?_⟩) (by assumption) ?_
  rotate_left
  focus (intro w hSw; (try dsimp only at hSw); go_simp; try (with_reducible rfl))
  try simp only [Act.put, List.setIfInBounds_toArray, List.set_cons_zero, List.set_cons_succ]
  refine wpAnyH_ready (rs := [3]) (by kernel_rfl) (by simp) ?_
  refine AllReadyH.cons (o := { dst := some 22, op := Op.call { callee := Callee.value (Operand.func 31), args := #[Operand.tmp 21], argTypes := #[22] }, type := 38, pos := "law.go:99", after := #[{ on := 2, ground := Ground.data }], guard := none }) rfl (fun K hK => ?_) AllReadyH.nil
  go_simp
  go_at_call 31; refine (HRB.out _ _ (HX4.out.below HBD.out)).mono ?_; clear HRB; rintro e w5 ⟨ar, cr, rfl, hr5, hb5⟩; have hcv5 := hstrx.out _ _ (BytesAt.of_row hr5); have HB5 : Hid (Below w4.heap.size w4 w5) := HBD.out.trans (hb5.mono HBD.out.size); obtain ⟨f0, f1⟩ := HCV.out w5 HB5.out; clear hr5 hb5
  go_wp2_with fail
  refine hK.out _ _ ⟨f0, f1⟩ (fun hHeld => ?_)
  clear hK K
  try simp only [Act.put, List.setIfInBounds_toArray, List.set_cons_zero, List.set_cons_succ]
  refine wpAnyH_ready (rs := [4]) (by kernel_rfl) (by simp) ?_
  refine AllReadyH.cons (o := { dst := some 23, op := Op.convert 38 9 (Operand.tmp 22), type := 9, pos := "law.go:99", after := #[{ on := 3, ground := Ground.data }], guard := none }) rfl (fun K hK => ?_) AllReadyH.nil
  go_simp
  refine hK.out _ _ ⟨f0, f1⟩ (fun hHeld => ?_)
  clear hK K
  try simp only [Act.put, List.setIfInBounds_toArray, List.set_cons_zero, List.set_cons_succ]
  refine wpAnyH_take (i := 5) (oi := { dst := some 24, op := Op.binOp BinOp.neq 9 (Operand.tmp 20) (Operand.tmp 23) 9, type := 4, pos := "law.go:99", after := #[{ on := 1, ground := Ground.data }, { on := 4, ground := Ground.data }], guard := none }) (v := ?_) rfl (by kernel_rfl) (by kernel_rfl) (by kernel_rfl) (fun _ _ _ h => h) (Or.inl ⟨by rfl, ?_⟩) (by assumption) ?_
  rotate_left
  focus (intro w hSw; (try dsimp only at hSw); go_simp; try (with_reducible rfl))
  try simp only [Act.put, List.setIfInBounds_toArray, List.set_cons_zero, List.set_cons_succ]
  refine wpAnyH_take (i := 6) (oi := { dst := some 25, op := Op.move (Operand.tmp 24), type := 4, pos := "law.go:99", after := #[{ on := 5, ground := Ground.data }, { on := 3, ground := Ground.chain }], guard := none }) (v := ?_) rfl (by kernel_rfl) (by kernel_rfl) (by kernel_rfl) (fun _ _ _ h => h) (Or.inl ⟨by rfl, ?_⟩) (by assumption) ?_
  rotate_left
  focus (intro w hSw; (try dsimp only at hSw); go_simp; try (with_reducible rfl))
  try simp only [Act.put, List.setIfInBounds_toArray, List.set_cons_zero, List.set_cons_succ]
  refine wpAnyH_take (i := 7) (oi := { dst := some 26, op := Op.move (Operand.tmp 5), type := 22, pos := "law.go:99", after := #[{ on := 6, ground := Ground.guard }], guard := some (6, false) }) (v := ?_) rfl (by kernel_rfl) (by kernel_rfl) (by kernel_rfl) (fun _ _ _ h => h) (Or.inl ⟨by rfl, ?_⟩) (by assumption) ?_
  rotate_left
  focus (intro w hSw; (try dsimp only at hSw); go_simp; try (with_reducible rfl))
  try simp only [Act.put, List.setIfInBounds_toArray, List.set_cons_zero, List.set_cons_succ]
  refine wpAnyH_take (i := 9) (oi := { dst := some 28, op := Op.move (Operand.tmp 5), type := 22, pos := "law.go:99", after := #[{ on := 6, ground := Ground.guard }], guard := some (6, false) }) (v := ?_) rfl (by kernel_rfl) (by kernel_rfl) (by kernel_rfl) (fun _ _ _ h => h) (Or.inl ⟨by rfl, ?_⟩) (by assumption) ?_
  rotate_left
  focus (intro w hSw; (try dsimp only at hSw); go_simp; try (with_reducible rfl))
  try simp only [Act.put, List.setIfInBounds_toArray, List.set_cons_zero, List.set_cons_succ]
  refine wpAnyH_ready (rs := [8]) (by kernel_rfl) (by simp) ?_
  refine AllReadyH.cons (o := { dst := some 27, op := Op.call { callee := Callee.value (Operand.func 32), args := #[Operand.tmp 26], argTypes := #[22] }, type := 40, pos := "law.go:99", after := #[{ on := 7, ground := Ground.data }, { on := 6, ground := Ground.chain }, { on := 6, ground := Ground.guard }], guard := some (6, false) }) rfl (fun K hK => ?_) AllReadyH.nil
  go_simp
  go_at_call 32; refine (HHA.out _ _ (HX4.out.below HB5.out)).mono ?_; clear HHA; rintro e w6 ⟨rfl, hb6⟩; have HB6 : Hid (Below w4.heap.size w4 w6) := HB5.out.trans (hb6.mono HB5.out.size); obtain ⟨f2, f3⟩ := HCV.out w6 HB6.out; clear hb6
  go_wp2_with fail
  refine hK.out _ _ ⟨f2, f3⟩ (fun hHeld => ?_)
  clear hK K
  try simp only [Act.put, List.setIfInBounds_toArray, List.set_cons_zero, List.set_cons_succ]
  refine wpAnyH_ready (rs := [10]) (by kernel_rfl) (by simp) ?_
  refine AllReadyH.cons (o := { dst := some 29, op := Op.call { callee := Callee.value (Operand.func 33), args := #[Operand.tmp 28], argTypes := #[22] }, type := 40, pos := "law.go:99", after := #[{ on := 9, ground := Ground.data }, { on := 8, ground := Ground.chain }, { on := 6, ground := Ground.guard }], guard := some (6, false) }) rfl (fun K hK => ?_) AllReadyH.nil
  go_simp
  go_at_call 33; refine (HRH.out _ _ (HX4.out.below HB6.out)).mono ?_; clear HRH; rintro e w7 ⟨rfl, hb7⟩; have HB7 : Hid (Below w4.heap.size w4 w7) := HB6.out.trans (hb7.mono HB6.out.size); obtain ⟨f4, f5⟩ := HCV.out w7 HB7.out; clear hb7
  go_wp2_with fail
  refine hK.out _ _ ⟨f4, f5⟩ (fun hHeld => ?_)
  clear hK K
  try simp only [Act.put, List.setIfInBounds_toArray, List.set_cons_zero, List.set_cons_succ]
  refine wpAnyH_take (i := 11) (oi := { dst := some 30, op := Op.binOp BinOp.neq 40 (Operand.tmp 27) (Operand.tmp 29) 40, type := 4, pos := "law.go:99", after := #[{ on := 8, ground := Ground.data }, { on := 10, ground := Ground.data }, { on := 6, ground := Ground.guard }], guard := some (6, false) }) (v := ?_) rfl (by kernel_rfl) (by kernel_rfl) (by kernel_rfl) (fun _ _ _ h => h) (Or.inl ⟨by rfl, ?_⟩) (by assumption) ?_
  rotate_left
  focus (intro w hSw; (try dsimp only at hSw); go_simp; try (with_reducible rfl))
  try simp only [Act.put, List.setIfInBounds_toArray, List.set_cons_zero, List.set_cons_succ]
  refine wpAnyH_take (i := 12) (oi := { dst := some 31, op := Op.pick (Operand.tmp 25) (Operand.const (Value.bool true)) (Operand.tmp 30), type := 4, pos := "law.go:99", after := #[{ on := 6, ground := Ground.data }, { on := 11, ground := Ground.data }], guard := none }) (v := ?_) rfl (by kernel_rfl) (by kernel_rfl) (by kernel_rfl) (fun _ _ _ h => h) (Or.inl ⟨by rfl, ?_⟩) (by assumption) ?_
  rotate_left
  focus (intro w hSw; (try dsimp only at hSw); go_simp; try (with_reducible rfl))
  try simp only [Act.put, List.setIfInBounds_toArray, List.set_cons_zero, List.set_cons_succ]
  refine wpAnyH_take (i := 13) (oi := { dst := some 32, op := Op.move (Operand.tmp 31), type := 4, pos := "law.go:99", after := #[{ on := 12, ground := Ground.data }, { on := 10, ground := Ground.chain }], guard := none }) (v := ?_) rfl (by kernel_rfl) (by kernel_rfl) (by kernel_rfl) (fun _ _ _ h => h) (Or.inl ⟨by rfl, ?_⟩) (by assumption) ?_
  rotate_left
  focus (intro w hSw; (try dsimp only at hSw); go_simp; try (with_reducible rfl))
  try simp only [Act.put, List.setIfInBounds_toArray, List.set_cons_zero, List.set_cons_succ]
  refine wpAnyH_take (i := 14) (oi := { dst := some 33, op := Op.move (Operand.tmp 7), type := 38, pos := "law.go:99", after := #[{ on := 13, ground := Ground.guard }], guard := some (13, false) }) (v := ?_) rfl (by kernel_rfl) (by kernel_rfl) (by kernel_rfl) (fun _ _ _ h => h) (Or.inl ⟨by rfl, ?_⟩) (by assumption) ?_
  rotate_left
  focus (intro w hSw; (try dsimp only at hSw); go_simp; try (with_reducible rfl))
  try simp only [Act.put, List.setIfInBounds_toArray, List.set_cons_zero, List.set_cons_succ]
  refine wpAnyH_take (i := 15) (oi := { dst := some 34, op := Op.convert 38 9 (Operand.tmp 33), type := 9, pos := "law.go:99", after := #[{ on := 14, ground := Ground.data }, { on := 13, ground := Ground.guard }], guard := some (13, false) }) (v := ?_) rfl (by kernel_rfl) (by kernel_rfl) (by kernel_rfl) (fun _ _ _ h => h) (Or.inl ⟨by rfl, ?_⟩) (by assumption) ?_
  rotate_left
  focus (intro w hSw; (try dsimp only at hSw); go_simp; try (with_reducible rfl))
  try simp only [Act.put, List.setIfInBounds_toArray, List.set_cons_zero, List.set_cons_succ]
  refine wpAnyH_take (i := 16) (oi := { dst := some 35, op := Op.move (Operand.tmp 8), type := 38, pos := "law.go:99", after := #[{ on := 13, ground := Ground.guard }], guard := some (13, false) }) (v := ?_) rfl (by kernel_rfl) (by kernel_rfl) (by kernel_rfl) (fun _ _ _ h => h) (Or.inl ⟨by rfl, ?_⟩) (by assumption) ?_
  rotate_left
  focus (intro w hSw; (try dsimp only at hSw); go_simp; try (with_reducible rfl))
  try simp only [Act.put, List.setIfInBounds_toArray, List.set_cons_zero, List.set_cons_succ]
  refine wpAnyH_take (i := 17) (oi := { dst := some 36, op := Op.convert 38 9 (Operand.tmp 35), type := 9, pos := "law.go:99", after := #[{ on := 16, ground := Ground.data }, { on := 13, ground := Ground.guard }], guard := some (13, false) }) (v := ?_) rfl (by kernel_rfl) (by kernel_rfl) (by kernel_rfl) (fun _ _ _ h => h) (Or.inl ⟨by rfl, ?_⟩) (by assumption) ?_
  rotate_left
  focus (intro w hSw; (try dsimp only at hSw); go_simp; try (with_reducible rfl))
  try simp only [Act.put, List.setIfInBounds_toArray, List.set_cons_zero, List.set_cons_succ]
  refine wpAnyH_take (i := 18) (oi := { dst := some 37, op := Op.binOp BinOp.eql 9 (Operand.tmp 34) (Operand.tmp 36) 9, type := 4, pos := "law.go:99", after := #[{ on := 15, ground := Ground.data }, { on := 17, ground := Ground.data }, { on := 13, ground := Ground.guard }], guard := some (13, false) }) (v := ?_) rfl (by kernel_rfl) (by kernel_rfl) (by kernel_rfl) (fun _ _ _ h => h) (Or.inl ⟨by rfl, ?_⟩) (by assumption) ?_
  rotate_left
  focus (intro w hSw; (try dsimp only at hSw); go_simp; try (with_reducible rfl))
  try simp only [Act.put, List.setIfInBounds_toArray, List.set_cons_zero, List.set_cons_succ]
  refine wpAnyH_take (i := 19) (oi := { dst := some 38, op := Op.move (Operand.tmp 5), type := 22, pos := "law.go:99", after := #[{ on := 13, ground := Ground.guard }], guard := some (13, false) }) (v := ?_) rfl (by kernel_rfl) (by kernel_rfl) (by kernel_rfl) (fun _ _ _ h => h) (Or.inl ⟨by rfl, ?_⟩) (by assumption) ?_
  rotate_left
  focus (intro w hSw; (try dsimp only at hSw); go_simp; try (with_reducible rfl))
  try simp only [Act.put, List.setIfInBounds_toArray, List.set_cons_zero, List.set_cons_succ]
  refine wpAnyH_take (i := 20) (oi := { dst := some 39, op := Op.move (Operand.tmp 6), type := 22, pos := "law.go:99", after := #[{ on := 13, ground := Ground.guard }], guard := some (13, false) }) (v := ?_) rfl (by kernel_rfl) (by kernel_rfl) (by kernel_rfl) (fun _ _ _ h => h) (Or.inl ⟨by rfl, ?_⟩) (by assumption) ?_
  rotate_left
  focus (intro w hSw; (try dsimp only at hSw); go_simp; try (with_reducible rfl))
  try simp only [Act.put, List.setIfInBounds_toArray, List.set_cons_zero, List.set_cons_succ]
  refine wpAnyH_ready (rs := [21]) (by kernel_rfl) (by simp) ?_
  refine AllReadyH.cons (o := { dst := some 40, op := Op.call { callee := Callee.value (Operand.func 13), args := #[Operand.tmp 38, Operand.tmp 39], argTypes := #[22, 22] }, type := 4, pos := "law.go:99", after := #[{ on := 19, ground := Ground.data }, { on := 20, ground := Ground.data }, { on := 13, ground := Ground.chain }, { on := 13, ground := Ground.guard }], guard := some (13, false) }) rfl (fun K hK => ?_) AllReadyH.nil
  go_simp
  go_at_call 13; refine (HEQ.out _ _ _ (HX4.out.below HB7.out) (HY4.out.below HB7.out)).mono ?_; clear HEQ; rintro e w8 ⟨rfl, hb8⟩; have HB8 : Hid (Below w4.heap.size w4 w8) := HB7.out.trans (hb8.mono HB7.out.size); obtain ⟨f6, f7⟩ := HCV.out w8 HB8.out; clear hb8
  go_wp2_with fail
  refine hK.out _ _ ⟨f6, f7⟩ (fun hHeld => ?_)
  clear hK K
  try simp only [Act.put, List.setIfInBounds_toArray, List.set_cons_zero, List.set_cons_succ]
  refine wpAnyH_take (i := 22) (oi := { dst := some 41, op := Op.binOp BinOp.neq 4 (Operand.tmp 37) (Operand.tmp 40) 4, type := 4, pos := "law.go:99", after := #[{ on := 18, ground := Ground.data }, { on := 21, ground := Ground.data }, { on := 13, ground := Ground.guard }], guard := some (13, false) }) (v := ?_) rfl (by kernel_rfl) (by kernel_rfl) (by kernel_rfl) (fun _ _ _ h => h) (Or.inl ⟨by rfl, ?_⟩) (by assumption) ?_
  rotate_left
  focus (intro w hSw; (try dsimp only at hSw); go_simp; try (with_reducible rfl))
  try simp only [Act.put, List.setIfInBounds_toArray, List.set_cons_zero, List.set_cons_succ]
  refine wpAnyH_take (i := 23) (oi := { dst := some 42, op := Op.pick (Operand.tmp 32) (Operand.const (Value.bool true)) (Operand.tmp 41), type := 4, pos := "law.go:99", after := #[{ on := 13, ground := Ground.data }, { on := 22, ground := Ground.data }], guard := none }) (v := ?_) rfl (by kernel_rfl) (by kernel_rfl) (by kernel_rfl) (fun _ _ _ h => h) (Or.inl ⟨by rfl, ?_⟩) (by assumption) ?_
  rotate_left
  focus (intro w hSw; (try dsimp only at hSw); go_simp; try (with_reducible rfl))
  try simp only [Act.put, List.setIfInBounds_toArray, List.set_cons_zero, List.set_cons_succ]
  refine wpAnyH_done (by kernel_rfl) ?_ _
  clear hHeld k0 k1 k2 k3 f0 f1 f2 f3 f4 f5 f6 f7 hcv5
  have HP8 : Hid (Row w8 w2.heap.size (.slice ap bx.length cp) bx) := row_below HP4.out HB8.out
  have HZ8 : Hid (Below w2.heap.size w2 w8) := HZ4.out.trans (HB8.out.mono HZ4.out.size)
  have HB2' : Hid (∀ W, Below w2.heap.size w2 W → Below w.heap.size w W) := fun W hW => HB2.out.trans (hW.mono HB2.out.size)
  clear HCV HBD HP4 HQ4 HZ4 HX4 HY4 HB5 HB6 HB7 HB8 HY2 hstry
  go_wp2_with (first
    | (go_at_call 34; refine (HRD.out _ _ (BytesAt.of_row HP8.out) (HT.out _ (HB2'.out _ HZ8.out))).mono ?_; clear HRD; rintro e w9 ⟨az, cz, rfl, hl9, hb9⟩; have HL9 : Hid (LabsAt w9 (.slice az x.length cz) x) := hl9; have HP9 : Hid (Row w9 w2.heap.size (.slice ap bx.length cp) bx) := row_below HP8.out hb9; have HZ9 : Hid (Below w2.heap.size w2 w9) := HZ8.out.trans (hb9.mono HZ8.out.size); clear hl9 hb9 HP8 HZ8)
    | (go_at_call 13; refine (HEX.out _ _ _ HL9.out (HX2.out.below HZ9.out)).mono ?_; clear HEX; rintro e w10 ⟨rfl, hb10⟩; have HP10 : Hid (Row w10 w2.heap.size (.slice ap bx.length cp) bx) := row_below HP9.out hb10; have HZ10 : Hid (Below w2.heap.size w2 w10) := HZ9.out.trans (hb10.mono HZ9.out.size); clear hb10 HP9 HZ9 HL9)
    | (go_at_call 35; refine (HSP.out _ _ _ HP10.out HZ10.out.size).mono ?_; clear HSP; rintro e w11 ⟨rfl, hk11⟩; have HZ11 : Hid (Below w2.heap.size w2 w11) := HZ10.out.trans (hk11.toBelow HZ10.out.size (fun i hi => (World.ownsRow.lt HP10.out i hi).1)); clear hk11 HP10 HZ10))
  have hS11 : Below w2.heap.size w2 w11.drew := HZ11.out.drew
  have HWK2 : Hid (∀ W, Below w2.heap.size w2 W → Calls Tryd.prog 16 #[] W fun e w' => e = .returned (.bool true) ∧ Below w2.heap.size w2 w') := fun W hW => (wakes_any W (HT.out _ (HB2'.out _ hW))).mono fun e w' ⟨he, hb⟩ => ⟨he, hW.trans (hb.mono hW.size)⟩
  clear HWK
  refine wp_region_held_drew (S := fun w' => Below w2.heap.size w2 w') (by kernel_rfl) hS11 (fun hHeld => ?_)
  refine wpAnyH_take (i := 0) (oi := { dst := some 58, op := Op.move (Operand.tmp 5), type := 22, pos := "law.go:107", after := #[], guard := none }) (v := ?_) rfl (by kernel_rfl) (by kernel_rfl) (by kernel_rfl) (fun _ _ _ h => h) (Or.inl ⟨by rfl, ?_⟩) (by assumption) ?_
  rotate_left
  focus (intro w hSw; (try dsimp only at hSw); go_simp; try (with_reducible rfl))
  try simp only [Act.put, List.setIfInBounds_toArray, List.set_cons_zero, List.set_cons_succ]
  refine wpAnyH_take (i := 3) (oi := { dst := some 61, op := Op.move (Operand.tmp 5), type := 22, pos := "law.go:107", after := #[], guard := none }) (v := ?_) rfl (by kernel_rfl) (by kernel_rfl) (by kernel_rfl) (fun _ _ _ h => h) (Or.inl ⟨by rfl, ?_⟩) (by assumption) ?_
  rotate_left
  focus (intro w hSw; (try dsimp only at hSw); go_simp; try (with_reducible rfl))
  try simp only [Act.put, List.setIfInBounds_toArray, List.set_cons_zero, List.set_cons_succ]
  refine wpAnyH_ready (rs := [1]) (by kernel_rfl) (by simp) ?_
  refine AllReadyH.cons (o := { dst := some 59, op := Op.call { callee := Callee.value (Operand.func 30), args := #[Operand.tmp 58], argTypes := #[22] }, type := 38, pos := "law.go:107", after := #[{ on := 0, ground := Ground.data }], guard := none }) rfl (fun K hK => ?_) AllReadyH.nil
  go_simp
  go_at_call 30; refine (HBX2.out _ _ (HX2.out.below hS11)).mono ?_; clear HBX2; rintro e w12 ⟨ax, cx, rfl, hr12, hb12⟩; have HC12 : Hid (∀ W, Below w12.heap.size w12 W → (convert 38 9 (.slice ax bx.length cx)).run Tryd.prog W = .ok (.string tx) W) := (fun W hW => hstrx.out _ _ ((BytesAt.of_row hr12).below hW)); have hz12 : Below w2.heap.size w2 w12 := hS11.trans (hb12.mono hS11.size); have hcv12 := HC12.out w12 (Below.refl _ _); clear hr12 hb12
  go_wp2_with fail
  refine hK.out _ _ hz12 (fun hHeld => ?_)
  clear hK K
  try simp only [Act.put, List.setIfInBounds_toArray, List.set_cons_zero, List.set_cons_succ]
  refine wpAnyH_ready (rs := [2, 4]) (by kernel_rfl) (by simp) ?_
  refine AllReadyH.cons (o := { dst := some 60, op := Op.convert 38 9 (Operand.tmp 59), type := 9, pos := "law.go:107", after := #[{ on := 1, ground := Ground.data }], guard := none }) rfl (fun K hK => ?_) (AllReadyH.cons (o := { dst := some 62, op := Op.call { callee := Callee.value (Operand.func 31), args := #[Operand.tmp 61], argTypes := #[22] }, type := 38, pos := "law.go:107", after := #[{ on := 3, ground := Ground.data }, { on := 1, ground := Ground.chain }], guard := none }) rfl (fun K hK => ?_) AllReadyH.nil)
  · go_simp
    refine hK.out _ _ hz12 (fun hHeld => ?_)
    clear hK K
    try simp only [Act.put, List.setIfInBounds_toArray, List.set_cons_zero, List.set_cons_succ]
    refine wpAnyH_ready (rs := [4]) (by kernel_rfl) (by simp) ?_
    refine AllReadyH.cons (o := { dst := some 62, op := Op.call { callee := Callee.value (Operand.func 31), args := #[Operand.tmp 61], argTypes := #[22] }, type := 38, pos := "law.go:107", after := #[{ on := 3, ground := Ground.data }, { on := 1, ground := Ground.chain }], guard := none }) rfl (fun K hK => ?_) AllReadyH.nil
    go_simp
    go_at_call 31; refine (HRB2.out _ _ (HX2.out.below hz12)).mono ?_; clear HRB2; rintro e w13 ⟨ay, cy, rfl, hr13, hb13⟩; have hcv13 := hstrx.out _ _ (BytesAt.of_row hr13); have hcw13 := HC12.out w13 hb13; have hz13 : Below w2.heap.size w2 w13 := hz12.trans (hb13.mono hz12.size); clear hr13 hb13
    go_wp2_with fail
    refine hK.out _ _ hz13 (fun hHeld => ?_)
    clear hK K
    try simp only [Act.put, List.setIfInBounds_toArray, List.set_cons_zero, List.set_cons_succ]
    refine wpAnyH_ready (rs := [5]) (by kernel_rfl) (by simp) ?_
    refine AllReadyH.cons (o := { dst := some 63, op := Op.convert 38 9 (Operand.tmp 62), type := 9, pos := "law.go:107", after := #[{ on := 4, ground := Ground.data }], guard := none }) rfl (fun K hK => ?_) AllReadyH.nil
    go_simp
    refine hK.out _ _ hz13 (fun hHeld => ?_)
    clear hK K
    try simp only [Act.put, List.setIfInBounds_toArray, List.set_cons_zero, List.set_cons_succ]
    refine wpAnyH_take (i := 6) (oi := { dst := some 64, op := Op.binOp BinOp.eql 9 (Operand.tmp 60) (Operand.tmp 63) 9, type := 4, pos := "law.go:107", after := #[{ on := 2, ground := Ground.data }, { on := 5, ground := Ground.data }], guard := none }) (v := ?_) rfl (by kernel_rfl) (by kernel_rfl) (by kernel_rfl) (fun _ _ _ h => h) (Or.inl ⟨by rfl, ?_⟩) (by assumption) ?_
    rotate_left
    focus (intro w hSw; (try dsimp only at hSw); go_simp; try (with_reducible rfl))
    try simp only [Act.put, List.setIfInBounds_toArray, List.set_cons_zero, List.set_cons_succ]
    refine wpAnyH_take (i := 7) (oi := { dst := some 65, op := Op.move (Operand.tmp 64), type := 4, pos := "law.go:107", after := #[{ on := 6, ground := Ground.data }, { on := 4, ground := Ground.chain }], guard := none }) (v := ?_) rfl (by kernel_rfl) (by kernel_rfl) (by kernel_rfl) (fun _ _ _ h => h) (Or.inl ⟨by rfl, ?_⟩) (by assumption) ?_
    rotate_left
    focus (intro w hSw; (try dsimp only at hSw); go_simp; try (with_reducible rfl))
    try simp only [Act.put, List.setIfInBounds_toArray, List.set_cons_zero, List.set_cons_succ]
    refine wpAnyH_ready (rs := [8]) (by kernel_rfl) (by simp) ?_
    refine AllReadyH.cons (o := { dst := some 66, op := Op.call { callee := Callee.value (Operand.func 16), args := #[], argTypes := #[] }, type := 4, pos := "law.go:107", after := #[{ on := 7, ground := Ground.chain }, { on := 7, ground := Ground.guard }], guard := some (7, true) }) rfl (fun K hK => ?_) AllReadyH.nil
    go_simp
    go_at_call 16; refine (HWK2.out _ hz13).mono ?_; clear HWK2; rintro e w14 ⟨rfl, hz14⟩
    go_wp2_with fail
    refine hK.out _ _ hz14 (fun hHeld => ?_)
    clear hK K
    try simp only [Act.put, List.setIfInBounds_toArray, List.set_cons_zero, List.set_cons_succ]
    refine wpAnyH_take (i := 9) (oi := { dst := some 67, op := Op.pick (Operand.tmp 65) (Operand.tmp 66) (Operand.const (Value.bool false)), type := 4, pos := "law.go:107", after := #[{ on := 7, ground := Ground.data }, { on := 8, ground := Ground.data }], guard := none }) (v := ?_) rfl (by kernel_rfl) (by kernel_rfl) (by kernel_rfl) (fun _ _ _ h => h) (Or.inl ⟨by rfl, ?_⟩) (by assumption) ?_
    rotate_left
    focus (intro w hSw; (try dsimp only at hSw); go_simp; try (with_reducible rfl))
    try simp only [Act.put, List.setIfInBounds_toArray, List.set_cons_zero, List.set_cons_succ]
    refine wpAnyH_take (i := 10) (oi := { dst := some 4, op := Op.assign (Operand.tmp 67), type := 4, pos := "law.go:107", after := #[{ on := 9, ground := Ground.data }, { on := 8, ground := Ground.chain }, { on := 0, ground := Ground.phase }, { on := 1, ground := Ground.phase }, { on := 2, ground := Ground.phase }, { on := 3, ground := Ground.phase }, { on := 4, ground := Ground.phase }, { on := 5, ground := Ground.phase }, { on := 6, ground := Ground.phase }, { on := 7, ground := Ground.phase }, { on := 8, ground := Ground.phase }, { on := 9, ground := Ground.phase }], guard := none }) (v := ?_) rfl (by kernel_rfl) (by kernel_rfl) (by kernel_rfl) (fun _ _ _ h => h) (Or.inl ⟨by rfl, ?_⟩) (by assumption) ?_
    rotate_left
    focus (intro w hSw; (try dsimp only at hSw); go_simp; try (with_reducible rfl))
    try simp only [Act.put, List.setIfInBounds_toArray, List.set_cons_zero, List.set_cons_succ]
    refine wpAnyH_done (by kernel_rfl) ?_ _
    go_wp2
    go_ret
    exact ⟨rfl, HB2'.out _ hz14⟩
  · go_simp
    go_at_call 31; refine (HRB2.out _ _ (HX2.out.below hz12)).mono ?_; clear HRB2; rintro e w13 ⟨ay, cy, rfl, hr13, hb13⟩; have hcv13 := hstrx.out _ _ (BytesAt.of_row hr13); have hcw13 := HC12.out w13 hb13; have hz13 : Below w2.heap.size w2 w13 := hz12.trans (hb13.mono hz12.size); clear hr13 hb13
    go_wp2_with fail
    refine hK.out _ _ hz13 (fun hHeld => ?_)
    clear hK K
    try simp only [Act.put, List.setIfInBounds_toArray, List.set_cons_zero, List.set_cons_succ]
    refine wpAnyH_ready (rs := [2, 5]) (by kernel_rfl) (by simp) ?_
    refine AllReadyH.cons (o := { dst := some 60, op := Op.convert 38 9 (Operand.tmp 59), type := 9, pos := "law.go:107", after := #[{ on := 1, ground := Ground.data }], guard := none }) rfl (fun K hK => ?_) (AllReadyH.cons (o := { dst := some 63, op := Op.convert 38 9 (Operand.tmp 62), type := 9, pos := "law.go:107", after := #[{ on := 4, ground := Ground.data }], guard := none }) rfl (fun K hK => ?_) AllReadyH.nil)
    · go_simp
      refine hK.out _ _ hz13 (fun hHeld => ?_)
      clear hK K
      try simp only [Act.put, List.setIfInBounds_toArray, List.set_cons_zero, List.set_cons_succ]
      refine wpAnyH_ready (rs := [5]) (by kernel_rfl) (by simp) ?_
      refine AllReadyH.cons (o := { dst := some 63, op := Op.convert 38 9 (Operand.tmp 62), type := 9, pos := "law.go:107", after := #[{ on := 4, ground := Ground.data }], guard := none }) rfl (fun K hK => ?_) AllReadyH.nil
      go_simp
      refine hK.out _ _ hz13 (fun hHeld => ?_)
      clear hK K
      try simp only [Act.put, List.setIfInBounds_toArray, List.set_cons_zero, List.set_cons_succ]
      refine wpAnyH_take (i := 6) (oi := { dst := some 64, op := Op.binOp BinOp.eql 9 (Operand.tmp 60) (Operand.tmp 63) 9, type := 4, pos := "law.go:107", after := #[{ on := 2, ground := Ground.data }, { on := 5, ground := Ground.data }], guard := none }) (v := ?_) rfl (by kernel_rfl) (by kernel_rfl) (by kernel_rfl) (fun _ _ _ h => h) (Or.inl ⟨by rfl, ?_⟩) (by assumption) ?_
      rotate_left
      focus (intro w hSw; (try dsimp only at hSw); go_simp; try (with_reducible rfl))
      try simp only [Act.put, List.setIfInBounds_toArray, List.set_cons_zero, List.set_cons_succ]
      refine wpAnyH_take (i := 7) (oi := { dst := some 65, op := Op.move (Operand.tmp 64), type := 4, pos := "law.go:107", after := #[{ on := 6, ground := Ground.data }, { on := 4, ground := Ground.chain }], guard := none }) (v := ?_) rfl (by kernel_rfl) (by kernel_rfl) (by kernel_rfl) (fun _ _ _ h => h) (Or.inl ⟨by rfl, ?_⟩) (by assumption) ?_
      rotate_left
      focus (intro w hSw; (try dsimp only at hSw); go_simp; try (with_reducible rfl))
      try simp only [Act.put, List.setIfInBounds_toArray, List.set_cons_zero, List.set_cons_succ]
      refine wpAnyH_ready (rs := [8]) (by kernel_rfl) (by simp) ?_
      refine AllReadyH.cons (o := { dst := some 66, op := Op.call { callee := Callee.value (Operand.func 16), args := #[], argTypes := #[] }, type := 4, pos := "law.go:107", after := #[{ on := 7, ground := Ground.chain }, { on := 7, ground := Ground.guard }], guard := some (7, true) }) rfl (fun K hK => ?_) AllReadyH.nil
      go_simp
      go_at_call 16; refine (HWK2.out _ hz13).mono ?_; clear HWK2; rintro e w14 ⟨rfl, hz14⟩
      go_wp2_with fail
      refine hK.out _ _ hz14 (fun hHeld => ?_)
      clear hK K
      try simp only [Act.put, List.setIfInBounds_toArray, List.set_cons_zero, List.set_cons_succ]
      refine wpAnyH_take (i := 9) (oi := { dst := some 67, op := Op.pick (Operand.tmp 65) (Operand.tmp 66) (Operand.const (Value.bool false)), type := 4, pos := "law.go:107", after := #[{ on := 7, ground := Ground.data }, { on := 8, ground := Ground.data }], guard := none }) (v := ?_) rfl (by kernel_rfl) (by kernel_rfl) (by kernel_rfl) (fun _ _ _ h => h) (Or.inl ⟨by rfl, ?_⟩) (by assumption) ?_
      rotate_left
      focus (intro w hSw; (try dsimp only at hSw); go_simp; try (with_reducible rfl))
      try simp only [Act.put, List.setIfInBounds_toArray, List.set_cons_zero, List.set_cons_succ]
      refine wpAnyH_take (i := 10) (oi := { dst := some 4, op := Op.assign (Operand.tmp 67), type := 4, pos := "law.go:107", after := #[{ on := 9, ground := Ground.data }, { on := 8, ground := Ground.chain }, { on := 0, ground := Ground.phase }, { on := 1, ground := Ground.phase }, { on := 2, ground := Ground.phase }, { on := 3, ground := Ground.phase }, { on := 4, ground := Ground.phase }, { on := 5, ground := Ground.phase }, { on := 6, ground := Ground.phase }, { on := 7, ground := Ground.phase }, { on := 8, ground := Ground.phase }, { on := 9, ground := Ground.phase }], guard := none }) (v := ?_) rfl (by kernel_rfl) (by kernel_rfl) (by kernel_rfl) (fun _ _ _ h => h) (Or.inl ⟨by rfl, ?_⟩) (by assumption) ?_
      rotate_left
      focus (intro w hSw; (try dsimp only at hSw); go_simp; try (with_reducible rfl))
      try simp only [Act.put, List.setIfInBounds_toArray, List.set_cons_zero, List.set_cons_succ]
      refine wpAnyH_done (by kernel_rfl) ?_ _
      go_wp2
      go_ret
      exact ⟨rfl, HB2'.out _ hz14⟩
    · go_simp
      refine hK.out _ _ hz13 (fun hHeld => ?_)
      clear hK K
      try simp only [Act.put, List.setIfInBounds_toArray, List.set_cons_zero, List.set_cons_succ]
      refine wpAnyH_ready (rs := [2]) (by kernel_rfl) (by simp) ?_
      refine AllReadyH.cons (o := { dst := some 60, op := Op.convert 38 9 (Operand.tmp 59), type := 9, pos := "law.go:107", after := #[{ on := 1, ground := Ground.data }], guard := none }) rfl (fun K hK => ?_) AllReadyH.nil
      go_simp
      refine hK.out _ _ hz13 (fun hHeld => ?_)
      clear hK K
      try simp only [Act.put, List.setIfInBounds_toArray, List.set_cons_zero, List.set_cons_succ]
      refine wpAnyH_take (i := 6) (oi := { dst := some 64, op := Op.binOp BinOp.eql 9 (Operand.tmp 60) (Operand.tmp 63) 9, type := 4, pos := "law.go:107", after := #[{ on := 2, ground := Ground.data }, { on := 5, ground := Ground.data }], guard := none }) (v := ?_) rfl (by kernel_rfl) (by kernel_rfl) (by kernel_rfl) (fun _ _ _ h => h) (Or.inl ⟨by rfl, ?_⟩) (by assumption) ?_
      rotate_left
      focus (intro w hSw; (try dsimp only at hSw); go_simp; try (with_reducible rfl))
      try simp only [Act.put, List.setIfInBounds_toArray, List.set_cons_zero, List.set_cons_succ]
      refine wpAnyH_take (i := 7) (oi := { dst := some 65, op := Op.move (Operand.tmp 64), type := 4, pos := "law.go:107", after := #[{ on := 6, ground := Ground.data }, { on := 4, ground := Ground.chain }], guard := none }) (v := ?_) rfl (by kernel_rfl) (by kernel_rfl) (by kernel_rfl) (fun _ _ _ h => h) (Or.inl ⟨by rfl, ?_⟩) (by assumption) ?_
      rotate_left
      focus (intro w hSw; (try dsimp only at hSw); go_simp; try (with_reducible rfl))
      try simp only [Act.put, List.setIfInBounds_toArray, List.set_cons_zero, List.set_cons_succ]
      refine wpAnyH_ready (rs := [8]) (by kernel_rfl) (by simp) ?_
      refine AllReadyH.cons (o := { dst := some 66, op := Op.call { callee := Callee.value (Operand.func 16), args := #[], argTypes := #[] }, type := 4, pos := "law.go:107", after := #[{ on := 7, ground := Ground.chain }, { on := 7, ground := Ground.guard }], guard := some (7, true) }) rfl (fun K hK => ?_) AllReadyH.nil
      go_simp
      go_at_call 16; refine (HWK2.out _ hz13).mono ?_; clear HWK2; rintro e w14 ⟨rfl, hz14⟩
      go_wp2_with fail
      refine hK.out _ _ hz14 (fun hHeld => ?_)
      clear hK K
      try simp only [Act.put, List.setIfInBounds_toArray, List.set_cons_zero, List.set_cons_succ]
      refine wpAnyH_take (i := 9) (oi := { dst := some 67, op := Op.pick (Operand.tmp 65) (Operand.tmp 66) (Operand.const (Value.bool false)), type := 4, pos := "law.go:107", after := #[{ on := 7, ground := Ground.data }, { on := 8, ground := Ground.data }], guard := none }) (v := ?_) rfl (by kernel_rfl) (by kernel_rfl) (by kernel_rfl) (fun _ _ _ h => h) (Or.inl ⟨by rfl, ?_⟩) (by assumption) ?_
      rotate_left
      focus (intro w hSw; (try dsimp only at hSw); go_simp; try (with_reducible rfl))
      try simp only [Act.put, List.setIfInBounds_toArray, List.set_cons_zero, List.set_cons_succ]
      refine wpAnyH_take (i := 10) (oi := { dst := some 4, op := Op.assign (Operand.tmp 67), type := 4, pos := "law.go:107", after := #[{ on := 9, ground := Ground.data }, { on := 8, ground := Ground.chain }, { on := 0, ground := Ground.phase }, { on := 1, ground := Ground.phase }, { on := 2, ground := Ground.phase }, { on := 3, ground := Ground.phase }, { on := 4, ground := Ground.phase }, { on := 5, ground := Ground.phase }, { on := 6, ground := Ground.phase }, { on := 7, ground := Ground.phase }, { on := 8, ground := Ground.phase }, { on := 9, ground := Ground.phase }], guard := none }) (v := ?_) rfl (by kernel_rfl) (by kernel_rfl) (by kernel_rfl) (fun _ _ _ h => h) (Or.inl ⟨by rfl, ?_⟩) (by assumption) ?_
      rotate_left
      focus (intro w hSw; (try dsimp only at hSw); go_simp; try (with_reducible rfl))
      try simp only [Act.put, List.setIfInBounds_toArray, List.set_cons_zero, List.set_cons_succ]
      refine wpAnyH_done (by kernel_rfl) ?_ _
      go_wp2
      go_ret
      exact ⟨rfl, HB2'.out _ hz14⟩

end Go.Proofs.YtobkomfeojhhbaaDoor
