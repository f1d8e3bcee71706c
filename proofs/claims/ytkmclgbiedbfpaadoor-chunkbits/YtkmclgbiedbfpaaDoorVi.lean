/- Samples are packed into just the document's bits. -/
import Derived.Test.YtkmclgbiedbfpaaDoorVh
import Derived.Test.YtkmclgbiedbfpaaDoorKu
import Derived.Deep.RegionHeld3
import Derived.Deep.RegionLaw
namespace Go.Proofs.YtkmclgbiedbfpaaDoor
open Go.RowKit Go.Maps Go.Shelf

theorem encR_len (l : List Sm) (h : l.length ≤ 120) : (encR l).length ≤ 100000 := by
  have h1 := encB_length l
  have h2 := pk_length (encB l)
  unfold encR
  simp only [List.length_cons, h2]
  omega

theorem step_call1w (w : World) {P : Program} {ops : Array Oper} {o : Oper} {a : Act} {K : Act → World → Prop} {Q : Exit → Act → World → Prop} {E : Prop} (hw : Region.wanted o (yielded ops a.tmps) = true) (f : Nat) (x : Operand) (t : TypeId)
    (ho : o.op = .call { callee := .value (.func f), args := #[x], argTypes := #[t] }) (v : Value) (hx : a.eval x = v) (he : ∀ args w, (callFunc f args).run P w = .ok (.enter f args) w) (R : Value → World → Prop)
    (hc : Calls P f #[v] w fun e w' => ∃ u, e = .returned u ∧ R u w') (h : ∀ u w', R u w' → K (a.put o.dst u) w') :
    if Region.wanted o (yielded ops a.tmps) = true then Oper.wp P o a w K Q else E := by
  rw [if_pos hw]
  have hfn : a.eval (.func f) = .func (.func f) #[] #[] := rfl
  unfold Oper.wp execOp
  simp only [ho, resolve, hfn, hx, Sem.run_bind, List.map_toArray, List.map_cons, List.map_nil]
  simp only [Deferred.ofValue, invoke, Sem.run_pure, Result.andThen_ok, Array.append_empty, he]
  refine hc.mono ?_
  rintro e w' ⟨u, rfl, hu⟩
  exact h u w' hu
theorem step_call0w (w : World) {P : Program} {ops : Array Oper} {o : Oper} {a : Act} {K : Act → World → Prop} {Q : Exit → Act → World → Prop} {E : Prop} (hw : Region.wanted o (yielded ops a.tmps) = true) (f : Nat)
    (ho : o.op = .call { callee := .value (.func f), args := #[], argTypes := #[] }) (he : ∀ args w, (callFunc f args).run P w = .ok (.enter f args) w) (R : Value → World → Prop)
    (hc : Calls P f #[] w fun e w' => ∃ u, e = .returned u ∧ R u w') (h : ∀ u w', R u w' → K (a.put o.dst u) w') :
    if Region.wanted o (yielded ops a.tmps) = true then Oper.wp P o a w K Q else E := by
  rw [if_pos hw]
  have hfn : a.eval (.func f) = .func (.func f) #[] #[] := rfl
  unfold Oper.wp execOp
  simp only [ho, resolve, hfn, Sem.run_bind, List.map_toArray, List.map_nil]
  simp only [Deferred.ofValue, invoke, Sem.run_pure, Result.andThen_ok, Array.append_empty, he]
  refine hc.mono ?_
  rintro e w' ⟨u, rfl, hu⟩
  exact h u w' hu

set_option maxRecDepth 100000 in
set_option maxHeartbeats 8000000 in
theorem bitsLaw_any (v : Value) (l : List Sm) (w : World) (h : SmpAt w v l) (hL : Laid w w.heap.size) :
    Calls Tryd.prog 3 #[v] w fun e w' => e = .returned (.bool true) ∧ Below w.heap.size w w' := by
  have hcut := cut_any v l w h
  obtain ⟨L, hLd⟩ : ∃ L, L = l.take 130 := ⟨_, rfl⟩
  have hL130 : L.length ≤ 130 := by rw [hLd]; simp; omega
  rw [← hLd] at hcut
  obtain ⟨n, hn⟩ : ∃ n, n = min L.length 120 := ⟨_, rfl⟩
  have hnl : (L.take n).length = n := by simp; omega
  -- the two ways
  have key : ∃ (no : Int) (enc : List UInt8) (B : Nat), ((no = 0 ∧ L.length ≤ 120 ∧ B = (wb 16 L.length ++ encB L).length) ∨ (no = 15 ∧ 120 < L.length ∧ B = 0)) ∧ B ≤ 100000 ∧
      Hid (∀ W V, SmpAt W V L → Calls Tryd.prog 10 #[V] W fun e w' => ∃ v', e = .returned (.tuple #[v', .int .i64 no]) ∧ BytesAt w' v' enc ∧ Below W.heap.size W w') ∧
      Hid (∀ W V, SmpAt W V L → Below w.heap.size w W → Calls Tryd.prog 11 #[V] W fun e w' => ∃ v', e = .returned (.tuple #[v', .int .i64 no]) ∧ BytesAt w' v' enc ∧ Below W.heap.size W w') ∧
      Hid (∀ W V, SmpAt W V L → Below w.heap.size w W → Calls Tryd.prog 14 #[V] W fun e w' => e = .returned (.int .i64 (B : Int)) ∧ Below W.heap.size W w') := by
    by_cases h120 : L.length ≤ 120
    · have hb := encB_length L
      refine ⟨0, encR L, (wb 16 L.length ++ encB L).length, Or.inl ⟨rfl, h120, rfl⟩, by rw [List.length_append, wb_length]; omega, fun W V hV => (rencode_any V L W hV h120).mono (fun e w' h9 => ?_), fun W V hV hW => (encode_any V L W hV h120 ((hL.below hW).mono hW.size)).mono (fun e w' h9 => ?_), fun W V hV hW => ?_⟩
      · obtain ⟨v', h1, h2, h3⟩ := h9
        exact ⟨v', h1, BytesAt.of_row h2, h3⟩
      · obtain ⟨v', h1, h2, h3⟩ := h9
        exact ⟨v', h1, BytesAt.of_row h2, h3⟩
      · have := bits_any V L W hV h120 ((hL.below hW).mono hW.size)
        rw [List.length_append, wb_length]
        exact this
    · refine ⟨15, [], 0, Or.inr ⟨rfl, by omega, rfl⟩, by omega, fun W V hV => (rencode_many V L W hV (by omega)).mono (fun e w' h9 => ?_), fun W V hV hW => (encode_many V L W hV (by omega)).mono (fun e w' h9 => ?_), fun W V hV hW => (bits_many V L W hV (by omega)).mono (fun e w' h9 => ?_)⟩
      · obtain ⟨h1, rfl⟩ := h9
        exact ⟨_, h1, BytesAt.nil, Below.refl _ _⟩
      · obtain ⟨h1, rfl⟩ := h9
        exact ⟨_, h1, BytesAt.nil, Below.refl _ _⟩
      · obtain ⟨h1, rfl⟩ := h9
        exact ⟨h1, Below.refl _ _⟩
  obtain ⟨no, enc, B, hno, hBl, KE, KC, KB⟩ := key
  have KR : Hid (∀ W V, SmpAt W V L → Calls Tryd.prog 13 #[V] W fun e w' => ∃ a c, e = .returned (.slice a (wb 16 L.length ++ encB L).length c) ∧ Below W.heap.size W w') := fun W V hV => (rrow_any V L W hV (by omega)).mono (fun e w' h9 => by
    obtain ⟨v', h1, h2, h3⟩ := h9
    obtain ⟨a, c, rfl⟩ := slice_of_row h2
    exact ⟨a, c, h1, h3⟩)
  have HT : Hid (∀ W V, BytesAt W V enc → (convert 24 9 V).run Tryd.prog W = .ok (.string ⟨enc.toArray⟩) W) := fun W V hV => hV.str
  generalize (⟨enc.toArray⟩ : ByteArray) = tx at *
  have HL : Hid (Laid w w.heap.size) := hL
  have KN : Hid (∀ W, Calls Tryd.prog 12 #[] W fun e w' => e = .returned (.pointer (some ⟨W.heap.size, 0, none⟩)) ∧ WrL w' W.heap.size W.heap.size [] ∧ Below W.heap.size W w') := fun W => new_any W
  clear h hL hLd
  go_enter Tryd.func3, Tryd.ntmps3
  have hno2 : (no = 0 ∧ L.length ≤ 120 ∧ Hid (B = (wb 16 L.length ++ encB L).length)) ∨ (no = 15 ∧ 120 < L.length ∧ B = 0) := hno
  clear hno
  rcases hno2 with ⟨rfl, h120, HB⟩ | ⟨rfl, h120, rfl⟩
  all_goals
    go_wp2_with (first
      | (go_at_call 9; refine hcut.mono ?_; clear hcut; rintro e w0 ⟨v0, rfl, hs, hw0⟩; have hw0 := hw0.symm; subst hw0; obtain ⟨a, c, rfl, hlc, hnn, -⟩ := id hs; have HS : Hid (∀ W, Below w.heap.size w W → SmpAt W (.slice a L.length c) L) := (fun W hb => hs.below hb); have ke := KE.out w _ hs; have HSL : Hid ((L.length ≤ c ∧ c ≤ maxLen) ∧ (a = none → c = 0 ∧ L = [])) := ⟨hlc, hnn⟩; clear hs hlc hnn)
      | (go_at_call 10; refine ke.mono ?_; clear ke; rintro e w1 ⟨v1, rfl, hv1, hb1⟩; obtain ⟨a1, c1, rfl, -, -, -⟩ := id hv1; have HV1 : Hid (BytesAt w1 (.slice a1 enc.length c1) enc) := hv1; have HB1 : Hid (Below w.heap.size w w1) := hb1; have hs1 := hb1.size; clear hv1 hb1)
      | (at_builtin; refine wpList_append_smps _ rfl _ _ rfl w1.heap.size (.slice (some ⟨w1.heap.size, 0, none⟩) 0 0) 0 [] rfl ⟨rfl, Or.inr ⟨w1.heap.size, 0, #[], rfl, Nat.le_refl _, heap_alloc_new w1 _, Nat.le_refl _, Nat.zero_le _, rfl, rfl⟩⟩ _ L rfl (HS.out _ (HB1.out.alloc hs1 _)) (by omega) (by simp) ?_; intro v2 w2 hr2 hg2; have hb2 : Below w1.heap.size w1 w2 := ((Below.refl _ _).alloc (Nat.le_refl _) _).grown hg2 (by simp) (fun j hj => by simp [Value.ownBlock] at hj; omega); rw [Nat.zero_add, List.nil_append] at hr2; have hbw2 : Below w.heap.size w w2 := HB1.out.trans (hb2.mono hs1); have kc := KC.out w2 _ (SmpAt.of_row hr2) hbw2; have HB2 : Hid (Below w1.heap.size w1 w2) := hb2; have HBW2 : Hid (Below w.heap.size w w2) := hbw2; clear hr2 hg2 hb2 hbw2)
      | (go_at_call 11; refine kc.mono ?_; clear kc; rintro e w3 ⟨v3, rfl, hv3, hb3⟩; obtain ⟨a3, c3, rfl, -, -, -⟩ := id hv3; have HV3 : Hid (BytesAt w3 (.slice a3 enc.length c3) enc) := hv3; have HB3 : Hid (Below w2.heap.size w2 w3) := hb3; have kn := KN.out w3; clear hv3 hb3)
      | (go_at_call 12; refine kn.mono ?_; clear kn; rintro e w4 ⟨rfl, hv4, hb4⟩; have HW4 : Hid (WrL w4 w3.heap.size w3.heap.size []) := hv4; have HB4 : Hid (Below w3.heap.size w3 w4) := hb4; have t3 := HT.out w4 _ (HV3.out.below hb4); have t1 := HT.out w4 _ (((HV1.out.below HB2.out).below HB3.out).below hb4); have hbw4 : Below w.heap.size w w4 := (HBW2.out.trans (HB3.out.mono HBW2.out.size)).trans (hb4.mono (Nat.le_trans HBW2.out.size HB3.out.size)); have HBW4 : Hid (Below w.heap.size w w4) := hbw4; have kr := KR.out w4 _ (HS.out w4 hbw4); have kb4 := KB.out w4 _ (HS.out w4 hbw4) hbw4; clear hv4 hb4 hbw4)
      | (go_at_call 13; refine kr.mono ?_; clear kr; rintro e w5 ⟨a5, c5, rfl, hb5⟩; rw [← HB.out]; have HW5 : Hid (WrL w5 w3.heap.size w3.heap.size []) := HW4.out.keep hb5; have hbw5 : Below w.heap.size w w5 := HBW4.out.trans (hb5.mono HBW4.out.size); have kb := KB.out w5 _ (HS.out w5 hbw5) hbw5; have HBW5 : Hid (Below w.heap.size w w5) := hbw5; clear hbw5 hb5 kb4)
      | (go_at_call 14; refine kb.mono ?_; clear kb; rintro e w6 ⟨rfl, hb6⟩; have HW6 : Hid (WrL w6 w3.heap.size w3.heap.size []) := HW5.out.keep hb6; have HBW6 : Hid (Below w.heap.size w w6) := HBW5.out.trans (hb6.mono HBW5.out.size); clear hb6)
      | (go_at_call 14; refine kb4.mono ?_; clear kb4 kr; rintro e w6 ⟨rfl, hb6⟩; have HW6 : Hid (WrL w6 w3.heap.size w3.heap.size []) := HW4.out.keep hb6; have HBW6 : Hid (Below w.heap.size w w6) := HBW4.out.trans (hb6.mono HBW4.out.size); clear hb6))
    have h36 : w.heap.size ≤ w3.heap.size := Nat.le_trans HBW2.out.size HB3.out.size
    clear HW4 HBW4 HB4 HB3 HBW2 HB2 HB1 HV1 HV3 t1 t3
    try clear HW5 HBW5
    go_loopw [9] (fun i wr => ∃ k : Nat, k ≤ L.length ∧ i = .int .i64 k ∧ Hid (WrL wr w3.heap.size w3.heap.size (L.take (min k 120)) ∧ Below w.heap.size w wr)) (fun i _ => L.length - (intOf i).toNat)
    case atStart => exact ⟨0, Nat.zero_le _, rfl, HW6.out, HBW6.out⟩
    case round =>
      obtain ⟨k, hk, rfl, hI⟩ := hrel
      clear HW6 HBW6
      by_cases hlt : k < L.length
      · obtain ⟨b, o, rfl, hone⟩ := (HS.out w (Below.refl _ _)).one k hlt
        obtain ⟨hwr, hbl⟩ := hI.out
        have HCELL : Hid (∀ W, Below w.heap.size w W → W.cell? ⟨b, o + k * 2, none⟩ = some (.int .i64 (sg L[k].1)) ∧ W.cell? ⟨b, o + k * 2 + 1, none⟩ = some (.float .f64 L[k].2.toNat)) := hone
        obtain ⟨X, hX⟩ : ∃ X, X = L.take (min (k + 1) 120) := ⟨_, rfl⟩
        have hXl : X.length ≤ 120 := by rw [hX]; simp; omega
        have KA : ∃ f : Int, ((f = 0 ∧ (k : Int) < 120) ∨ (f = 5 ∧ 120 ≤ (k : Int))) ∧ Hid (∀ W, Below wr.heap.size wr W → Calls Tryd.prog 15 #[.pointer (some ⟨w3.heap.size, 0, none⟩), .int .i64 (sg L[k].1), .float .f64 L[k].2.toNat] W fun e w' => e = .returned (.int .i64 f) ∧ WrL w' w3.heap.size w3.heap.size X ∧ Below w3.heap.size W w') := by
          by_cases h9 : k < 120
          · refine ⟨0, Or.inl ⟨rfl, by omega⟩, fun W hW => ?_⟩
            have e1 : min k 120 = k := by omega
            have e2 : min (k + 1) 120 = k + 1 := by omega
            rw [e1] at hwr
            rw [hX, e2, List.take_succ_eq_append_getElem hlt]
            exact append_any w3.heap.size w3.heap.size (L.take k) L[k] W (hwr.keep hW) (by simp; omega) ((HL.out.below (hbl.trans (hW.mono hbl.size))).mono h36)
          · refine ⟨5, Or.inr ⟨rfl, by omega⟩, fun W hW => ?_⟩
            have e1 : min k 120 = 120 := by omega
            have e2 : min (k + 1) 120 = 120 := by omega
            rw [e1] at hwr
            rw [hX, e2]
            refine (append_full w3.heap.size w3.heap.size (L.take 120) (sg L[k].1) L[k].2.toNat W (hwr.keep hW) (by simp; omega)).mono (fun e w' h8 => ?_)
            obtain ⟨h1, rfl⟩ := h8
            exact ⟨h1, hwr.keep hW, Below.refl _ _⟩
        obtain ⟨f, hf, KA⟩ := KA
        have KY : Hid (∀ W, WrL W w3.heap.size w3.heap.size X → Calls Tryd.prog 17 #[.pointer (some ⟨w3.heap.size, 0, none⟩)] W fun e w' => ∃ v', e = .returned v' ∧ w'.ownsRow W.heap.size 5 1 v' (encR X).length (byteVals (encR X)) ∧ Below W.heap.size W w') := fun W hW => bytes_any _ _ X W hW hXl
        have hel := encR_len X hXl
        have KS : Hid (∀ (W : World) (base : Nat) v', W.ownsRow base 5 1 v' (encR X).length (byteVals (encR X)) → base ≤ W.heap.size → Calls Tryd.prog 16 #[v'] W fun e w' => e = .returned (.tuple #[]) ∧ Kept (fun k => v'.ownBlock = some k) W w') := fun W base v' h1 h2 => spoilB_any base v' _ W h1 (by omega) h2
        have HX : Hid (X = L.take (min (k + 1) 120)) := hX
        have HBL : Hid (Below w.heap.size w wr) := hbl
        have hkl : (k : Int) < (L.length : Int) := by omega
        have hsi := sg_in L[k].1
        clear hX hI hwr hone hbl hel
        generalize sg L[k].1 = A at *
        generalize L[k].2.toNat = Bv at *
        generalize encR X = ex at *
        go_wp2
        have d0 := HCELL.out wr HBL.out
        have d1 := HCELL.out wr.drew HBL.out.drew
        have HD : Hid (Below wr.heap.size wr wr.drew) := (Below.refl _ _).drew
        go_region_held3 (fun W => W.cell? ⟨b, o + k * 2, none⟩ = some (.int .i64 A) ∧ W.cell? ⟨b, o + k * 2 + 1, none⟩ = some (.float .f64 Bv))
          (first | exact d1 | exact d0 | exact f0)
          (first
            | (go_at_call 15; refine (KA.out _ HD.out).mono ?_; clear KA; rintro e w7 ⟨rfl, hw7, hb7⟩; have HW7 : Hid (WrL w7 w3.heap.size w3.heap.size X) := hw7; have hbw7 : Below w.heap.size w w7 := HBL.out.drew.trans (hb7.mono h36); have HBW7 : Hid (Below w.heap.size w w7) := hbw7; have f0 := HCELL.out w7 hbw7; clear hw7 hb7 hbw7))
        have h37 : (k : Int) % 37 = 5 ∨ ((k : Int) % 37 == 5) = false := by
          by_cases h9 : (k : Int) % 37 = 5
          · exact Or.inl h9
          · exact Or.inr (by simpa using h9)
        rcases hf with ⟨rfl, hf2⟩ | ⟨rfl, hf2⟩
        all_goals try (exfalso; omega)
        all_goals
          rcases h37 with h37 | h37
          · first
              | (exfalso; omega)
              | skip
            all_goals
              go_wp2_with (first
                | (go_at_call 17; refine (KY.out _ HW7.out).mono ?_; clear KY; rintro e w8 ⟨v8, rfl, hr8, hb8⟩; have ks := KS.out w8 _ v8 hr8 hb8.size; have HR8 : Hid (∀ j, v8.ownBlock = some j → w7.heap.size ≤ j) := row_lo hr8; have HB8 : Hid (Below w7.heap.size w7 w8) := hb8; clear KS hr8 hb8)
                | (go_at_call 16; refine ks.mono ?_; clear ks; rintro e w9 ⟨rfl, hk9⟩; have HB9 : Hid (Below w7.heap.size w7 w9) := HB8.out.trans (hk9.toBelow HB8.out.size (fun i hi => HR8.out i hi)); clear hk9))
              go_roundw
              case rel => exact ⟨k + 1, by omega, by go_num, by rw [← HX.out]; exact HW7.out.keep HB9.out, HBW7.out.trans (HB9.out.mono HBW7.out.size)⟩
              case measure => simp [intOf]; omega
          · go_wp2
            go_roundw
            case rel => exact ⟨k + 1, by omega, by go_num, by rw [← HX.out]; exact HW7.out, HBW7.out⟩
            case measure => simp [intOf]; omega
      · obtain rfl : k = L.length := by omega
        obtain ⟨hwr, hbl⟩ := hI.out
        rw [← hn] at hwr
        obtain ⟨⟨hc1, hc2⟩, hc3⟩ := HSL.out
        have hcm : (c : Int) ≤ 9223372036854775807 := by unfold maxLen at hc2; omega
        have hs := HS.out wr hbl
        have hs2 := hs.take n (by omega)
        have hae : n = 0 ∨ ∃ b o, a = some ⟨b, o, none⟩ := by
          rcases Nat.eq_zero_or_pos n with h9 | h9
          · exact Or.inl h9
          · obtain ⟨b, o, e, -⟩ := hs.one 0 (by omega)
            exact Or.inr ⟨b, o, e⟩
        have kf := rencode_any _ (L.take n) wr hs2 (by omega)
        have KY : Hid (∀ W, WrL W w3.heap.size w3.heap.size (L.take n) → Calls Tryd.prog 17 #[.pointer (some ⟨w3.heap.size, 0, none⟩)] W fun e w' => ∃ u, e = .returned u ∧ (∃ a c, u = .slice a (encR (L.take n)).length c) ∧ BytesAt w' u (encR (L.take n)) ∧ Below W.heap.size W w') := fun W hW => (bytes_any _ _ (L.take n) W hW (by omega)).mono (fun e w' h9 => by
          obtain ⟨v', h1, h2, h3⟩ := h9
          exact ⟨v', h1, slice_of_row h2, BytesAt.of_row h2, h3⟩)
        have KO : Hid (∀ W, WrL W w3.heap.size w3.heap.size (L.take n) → Calls Tryd.prog 18 #[.pointer (some ⟨w3.heap.size, 0, none⟩)] W fun e w' => ∃ u, e = .returned u ∧ u = .int .i64 (n : Int) ∧ w' = W) := fun W hW => (count_any _ _ (L.take n) W hW).mono (fun e w' h9 => by
          obtain ⟨h1, h2⟩ := h9
          rw [hnl] at h1
          exact ⟨_, h1, rfl, h2⟩)
        have KW : Hid (∀ W, Below w.heap.size w W → Calls Tryd.prog 19 #[] W fun e w' => ∃ u, e = .returned u ∧ u = .bool true ∧ Below W.heap.size W w') := fun W hW => (wakes_any W ((HL.out.below hW).mono hW.size)).mono (fun e w' h9 => ⟨_, h9.1, rfl, h9.2⟩)
        have HF : Hid (∀ W V, BytesAt W V (encR (L.take n)) → (convert 24 9 V).run Tryd.prog W = .ok (.string ⟨(encR (L.take n)).toArray⟩) W) := fun W V hV => hV.str
        generalize (⟨(encR (L.take n)).toArray⟩ : ByteArray) = tf at *
        have HWR : Hid (WrL wr w3.heap.size w3.heap.size (L.take n)) := hwr
        have HBL : Hid (Below w.heap.size w wr) := hbl
        clear hwr hbl hs hs2 hI HS HSL hc2
        generalize encR (L.take n) = ef at *
        have hcs : (n = L.length ∧ (L.length : Int) ≤ 120 ∧ (L.length : Int) ≤ (c : Int) ∧ ((∃ ad, a = some ad) ∨ (a = none ∧ c = 0 ∧ L = []))) ∨ (n = 120 ∧ (120 : Int) < (L.length : Int) ∧ (120 : Int) ≤ (c : Int) ∧ ∃ ad, a = some ad) := by
          by_cases h9 : L.length ≤ 120
          · refine Or.inl ⟨by omega, by omega, by omega, ?_⟩
            cases a with
            | none => exact Or.inr ⟨rfl, hc3 rfl⟩
            | some ad => exact Or.inl ⟨ad, rfl⟩
          · refine Or.inr ⟨by omega, by omega, by omega, ?_⟩
            rcases hae with h8 | ⟨b, o, e⟩
            · omega
            · exact ⟨_, e⟩
        have heB : ∀ args w, (callFunc 17 args).run Tryd.prog w = .ok (.enter 17 args) w := fun _ _ => by kernel_rfl
        have heC : ∀ args w, (callFunc 18 args).run Tryd.prog w = .ok (.enter 18 args) w := fun _ _ => by kernel_rfl
        have heW : ∀ args w, (callFunc 19 args).run Tryd.prog w = .ok (.enter 19 args) w := fun _ _ => by kernel_rfl
        have HEB : Hid _ := heB
        have HEC : Hid _ := heC
        have HEW : Hid _ := heW
        clear heB heC heW hae hc3 hn hnl
        rcases hcs with ⟨rfl, q1, q2, ⟨ad, rfl⟩ | ⟨rfl, rfl, rfl⟩⟩ | ⟨rfl, q1, q2, ad, rfl⟩
        all_goals try (exfalso; omega)
        all_goals
          go_wp2_with (go_at_call 10; refine kf.mono ?_; clear kf; rintro e w7 ⟨v7, rfl, hr7, hb7⟩; obtain ⟨a7, c7, rfl⟩ := slice_of_row hr7; have HC7 : Hid (∀ W, Below w7.heap.size w7 W → (convert 24 9 (.slice a7 ef.length c7)).run Tryd.prog W = .ok (.string tf) W) := (fun W hb => HF.out W _ ((BytesAt.of_row hr7).below hb)); have HW7 : Hid (WrL w7 w3.heap.size w3.heap.size _) := HWR.out.keep hb7; have HB7 : Hid (Below w.heap.size w w7) := HBL.out.trans (hb7.mono HBL.out.size); clear hr7 hb7)
          have HD : Hid (Below w7.heap.size w7 w7.drew) := (Below.refl _ _).drew
          have t7 := HC7.out w7.drew HD.out
          go_region_law (first
            | (refine step_call1w _ (by rfl) 18 _ _ (by rfl) _ (by rfl) HEC.out _ (KO.out _ (HW7.out.keep HD.out)) ?_; rintro u w8 ⟨rfl, hw8⟩; have hw8 := hw8.symm; subst hw8)
            | (refine step_call1w _ (by rfl) 17 _ _ (by rfl) _ (by rfl) HEB.out _ (KY.out _ (HW7.out.keep HD.out)) ?_; rintro u w9 ⟨⟨a9, c9, rfl⟩, hv9, hb9⟩; have hbw9 : Below w7.heap.size w7 w9 := HD.out.trans (hb9.mono HD.out.size); have t9 := HF.out w9 _ hv9; have t9' := HC7.out w9 hbw9; have HB9 : Hid (Below w7.heap.size w7 w9) := hbw9; clear hv9 hb9 hbw9)
            | (refine step_call0w _ (by rfl) 19 (by rfl) HEW.out _ (KW.out _ (HB7.out.trans (HB9.out.mono HB7.out.size))) ?_; rintro u w10 ⟨rfl, hb10⟩; have HB10 : Hid (Below w7.heap.size w7 w10) := HB9.out.trans (hb10.mono HB9.out.size); clear hb10))
          all_goals
            go_wp2
            go_ret
            exact ⟨rfl, HB7.out.trans (HB10.out.mono HB7.out.size)⟩

end Go.Proofs.YtkmclgbiedbfpaaDoor
