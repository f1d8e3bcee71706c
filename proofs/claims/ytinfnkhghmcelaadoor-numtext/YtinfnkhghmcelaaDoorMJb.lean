/- Texts that belong together. -/
import Derived.Test.YtinfnkhghmcelaaDoorMJa
import Derived.Test.YtinfnkhghmcelaaDoorMJe
/- The document's naturals: the sum, walked. -/
namespace Go.Proofs.YtinfnkhghmcelaaDoor
open Go.RowKit Go.Maps

set_option maxRecDepth 100000 in
set_option maxHeartbeats 1000000 in
theorem refAddL_any (ds es R : List Nat) (a b : Option Addr) (c c' : Nat) (w : World) (h : DAt w (.slice a ds.length c) ds) (h' : DAt w (.slice b es.length c') es) (hd : ∀ d ∈ ds, d < 10000) (he : ∀ d ∈ es, d < 10000) (hR : addQ ds es 0 = R) (hRl : R.length ≤ 50000) :
    Calls Tryd.prog 72 #[.slice a ds.length c, .slice b es.length c'] w fun e w' => ∃ a' c', e = .returned (.slice a' R.length c') ∧ DRow w' w.heap.size (.slice a' R.length c') R ∧ Below w.heap.size w w' := by
  have HA : Hid (DAt w (.slice a ds.length c) ds) := h
  have HB : Hid (DAt w (.slice b es.length c') es) := h'
  have HD : Hid ((∀ d ∈ ds, d < 10000) ∧ (∀ d ∈ es, d < 10000)) := ⟨hd, he⟩
  have HR : Hid (addQ ds es 0 = R) := hR
  obtain ⟨L, hL⟩ : ∃ L, R.length = L := ⟨_, rfl⟩
  have HL : Hid (R.length = L) := hL
  rw [hL] at hRl ⊢
  clear h h' hd he hR hL
  go_enter Tryd.func72, Tryd.ntmps72
  go_wp2
  go_loopw [5, 6, 7] (fun sv cv iv wr => ∃ (i : Nat) (rs : List Nat) (C : Nat) (ao : Option Addr) (co : Nat), iv = .int .i64 i ∧ cv = .int .i64 C ∧ C ≤ 1 ∧ sv = .slice ao i co ∧ i ≤ 60000 ∧ Hid (rs.length = i ∧ wr.ownsRow w.heap.size 3 1 (.slice ao i co) i (i64s rs) ∧ rs ++ addQ (ds.drop i) (es.drop i) C = R ∧ Below w.heap.size w wr)) (fun _ _ iv _ => L - (intOf iv).toNat)
  case atStart => exact ⟨0, [], 0, none, 0, rfl, rfl, by omega, rfl, by omega, rfl, World.ownsRow_nil _ _ _ _, HR.out, Below.refl _ _⟩
  case round =>
    obtain ⟨i, rs, C, ao, co, rfl, rfl, hC, rfl, hi6, hI⟩ := hrel
    obtain ⟨hrl, hrow, heq, hbl⟩ := hI.out
    have HRW : Hid (wr.ownsRow w.heap.size 3 1 (.slice ao i co) i (i64s rs)) := hrow
    have HBL : Hid (Below w.heap.size w wr) := hbl
    have hsz := hbl.size
    by_cases hla : i < ds.length
    · have hlai : (i : Int) < ds.length := by omega
      by_cases hlb : i < es.length
      · have hlbi : (i : Int) < es.length := by omega
        rw [addQ_both hla hlb] at heq
        obtain ⟨b1, o1, rfl, hc1⟩ := HA.out.one i hla hbl
        have hdl : ds[i] < 10000 := HD.out.1 _ (List.getElem_mem hla)
        obtain ⟨b2, o2, rfl, hc2⟩ := HB.out.one i hlb hbl
        have hel : es[i] < 10000 := HD.out.2 _ (List.getElem_mem hlb)
        have hLi : i < L := by
          have h9 := congrArg List.length heq
          rw [List.length_append, List.length_cons, hrl, HL.out] at h9
          omega
        have HEQ : Hid ((rs ++ [(C + ds[i] + es[i]) % 10000]) ++ addQ (ds.drop (i + 1)) (es.drop (i + 1)) ((C + ds[i] + es[i]) / 10000) = R) := by show _ = _; rw [← heq]; simp
        have HRL : Hid ((rs ++ [(C + ds[i] + es[i]) % 10000]).length = i + 1) := by show _ = _; simp [hrl]
        clear hI hrow heq hbl hrl
        generalize ds[i] = d at *
        generalize es[i] = f at *
        go_wp2_with (at_builtin; refine wpList_append_num _ rfl _ _ rfl w.heap.size ao i co rs rfl (World.ownsRow.alloc HRW.out _) wr.heap.size (((C : Int) + d + f) % 10000) ((C + d + f) % 10000) (by omega) rfl (heap_alloc_new wr _) (by omega) (by simp; omega) ?_; intro a3 c3 w3 hr3 hg3)
        go_roundw
        case rel =>
          refine ⟨i + 1, rs ++ [(C + d + f) % 10000], (C + d + f) / 10000, a3, c3, by go_num, by first | (congr 1; omega) | congr 1, by omega, rfl, by omega, HRL.out, hr3, HEQ.out, ?_⟩
          exact (HBL.out.alloc hsz _).grown hg3 (by simp; omega) (fun j hj => (HRW.out.lt j hj).1)
        case measure => simp [intOf]; omega
      · have hlbi : ¬ (i : Int) < es.length := by omega
        rw [addQ_left hla hlb] at heq
        obtain ⟨b1, o1, rfl, hc1⟩ := HA.out.one i hla hbl
        have hdl : ds[i] < 10000 := HD.out.1 _ (List.getElem_mem hla)
        have hLi : i < L := by
          have h9 := congrArg List.length heq
          rw [List.length_append, List.length_cons, hrl, HL.out] at h9
          omega
        have HEQ : Hid ((rs ++ [(C + ds[i]) % 10000]) ++ addQ (ds.drop (i + 1)) (es.drop (i + 1)) ((C + ds[i]) / 10000) = R) := by show _ = _; rw [← heq]; simp
        have HRL : Hid ((rs ++ [(C + ds[i]) % 10000]).length = i + 1) := by show _ = _; simp [hrl]
        clear hI hrow heq hbl hrl
        generalize ds[i] = d at *
        go_wp2_with (at_builtin; refine wpList_append_num _ rfl _ _ rfl w.heap.size ao i co rs rfl (World.ownsRow.alloc HRW.out _) wr.heap.size (((C : Int) + d) % 10000) ((C + d) % 10000) (by omega) rfl (heap_alloc_new wr _) (by omega) (by simp; omega) ?_; intro a3 c3 w3 hr3 hg3)
        go_roundw
        case rel =>
          refine ⟨i + 1, rs ++ [(C + d) % 10000], (C + d) / 10000, a3, c3, by go_num, by first | (congr 1; omega) | congr 1, by omega, rfl, by omega, HRL.out, hr3, HEQ.out, ?_⟩
          exact (HBL.out.alloc hsz _).grown hg3 (by simp; omega) (fun j hj => (HRW.out.lt j hj).1)
        case measure => simp [intOf]; omega
    · have hlai : ¬ (i : Int) < ds.length := by omega
      by_cases hlb : i < es.length
      · have hlbi : (i : Int) < es.length := by omega
        rw [addQ_right hla hlb] at heq
        obtain ⟨b2, o2, rfl, hc2⟩ := HB.out.one i hlb hbl
        have hel : es[i] < 10000 := HD.out.2 _ (List.getElem_mem hlb)
        have hLi : i < L := by
          have h9 := congrArg List.length heq
          rw [List.length_append, List.length_cons, hrl, HL.out] at h9
          omega
        have HEQ : Hid ((rs ++ [(C + es[i]) % 10000]) ++ addQ (ds.drop (i + 1)) (es.drop (i + 1)) ((C + es[i]) / 10000) = R) := by show _ = _; rw [← heq]; simp
        have HRL : Hid ((rs ++ [(C + es[i]) % 10000]).length = i + 1) := by show _ = _; simp [hrl]
        clear hI hrow heq hbl hrl
        generalize es[i] = f at *
        go_wp2_with (at_builtin; refine wpList_append_num _ rfl _ _ rfl w.heap.size ao i co rs rfl (World.ownsRow.alloc HRW.out _) wr.heap.size (((C : Int) + f) % 10000) ((C + f) % 10000) (by omega) rfl (heap_alloc_new wr _) (by omega) (by simp; omega) ?_; intro a3 c3 w3 hr3 hg3)
        go_roundw
        case rel =>
          refine ⟨i + 1, rs ++ [(C + f) % 10000], (C + f) / 10000, a3, c3, by go_num, by first | (congr 1; omega) | congr 1, by omega, rfl, by omega, HRL.out, hr3, HEQ.out, ?_⟩
          exact (HBL.out.alloc hsz _).grown hg3 (by simp; omega) (fun j hj => (HRW.out.lt j hj).1)
        case measure => simp [intOf]; omega
      · have hlbi : ¬ (i : Int) < es.length := by omega
        by_cases hC1 : C = 1
        · have hCi : (0 : Int) < C := by omega
          rw [addQ_none hla hlb, hC1, show digQ 1 = [1] by rw [digQ_pos (by decide), show 1 / 10000 = 0 from rfl, digQ_zero]] at heq

          have hLi : i < L := by
            have h9 := congrArg List.length heq
            rw [List.length_append, List.length_cons, hrl, HL.out] at h9
            omega
          have HEQ : Hid ((rs ++ [1 % 10000]) ++ addQ (ds.drop (i + 1)) (es.drop (i + 1)) (1 / 10000) = R) := by show _ = _; rw [addQ_none (by omega) (by omega), show 1 / 10000 = 0 from rfl, digQ_zero, List.append_nil, ← heq]
          have HRL : Hid ((rs ++ [1 % 10000]).length = i + 1) := by show _ = _; simp [hrl]
          clear hI hrow heq hbl hrl
          go_wp2_with (at_builtin; refine wpList_append_num _ rfl _ _ rfl w.heap.size ao i co rs rfl (World.ownsRow.alloc HRW.out _) wr.heap.size ((1 : Int) % 10000) (1 % 10000) (by omega) rfl (heap_alloc_new wr _) (by omega) (by simp; omega) ?_; intro a3 c3 w3 hr3 hg3)
          go_roundw
          case rel =>
            refine ⟨i + 1, rs ++ [1 % 10000], 1 / 10000, a3, c3, by go_num, by first | (congr 1; omega) | congr 1, by omega, rfl, by omega, HRL.out, hr3, HEQ.out, ?_⟩
            exact (HBL.out.alloc hsz _).grown hg3 (by simp; omega) (fun j hj => (HRW.out.lt j hj).1)
          case measure => simp [intOf]; omega
        · have hCi : ¬ (0 : Int) < C := by omega
          have hC0 : C = 0 := by omega
          rw [addQ_none hla hlb, hC0, digQ_zero, List.append_nil] at heq
          have HRI : Hid (i = L ∧ rs = R) := ⟨by rw [← hrl, heq]; exact HL.out, heq⟩
          clear hI hrow hbl heq hrl hC1 hC0
          go_wp2
          go_ret
          exact ⟨ao, co, by rw [HRI.out.1]; rfl, by rw [DRow, HL.out, ← HRI.out.1, ← HRI.out.2]; exact HRW.out, HBL.out⟩
theorem refAdd_any (v u : Value) (A B : Nat) (w : World) (h1 : QAt w v A) (h2 : QAt w u B) (hl : (digQ (A + B)).length ≤ 50000) :
    Calls Tryd.prog 72 #[v, u] w fun e w' => ∃ a c, e = .returned (.slice a (digQ (A + B)).length c) ∧ QAt w' (.slice a (digQ (A + B)).length c) (A + B) ∧ Below w.heap.size w w' := by
  obtain ⟨a, c, rfl, -⟩ := id h1
  obtain ⟨b, c', rfl, -⟩ := id h2
  have h9 := refAddL_any (digQ A) (digQ B) (digQ (A + B)) a b c c' w h1 h2 (digQ_lt A A (Nat.le_refl _)) (digQ_lt B B (Nat.le_refl _)) (by rw [addQ_dig (A + B) A B 0 (Nat.le_refl _) (by omega), Nat.add_zero]) hl
  refine h9.mono ?_
  rintro e w' ⟨a', c', rfl, hr, hb⟩
  exact ⟨_, _, rfl, hr.at, hb⟩
end Go.Proofs.YtinfnkhghmcelaaDoor

/- The document's nearer. -/
namespace Go.Proofs.YtinfnkhghmcelaaDoor
open Go.RowKit Go.Maps

set_option maxRecDepth 100000 in
set_option maxHeartbeats 1000000 in
theorem refNearer_any (raw A B l c l' c' j : Nat) (x x' : Int) (a a' : Option Addr) (w : World) (h1 : QAt w (.slice a l c) A) (h2 : QAt w (.slice a' l' c') B) (h0 : 0 < raw) (hraw : raw < 9218868437227405312) (hj : j ≤ 400) (hV : A + B < 10000 ^ j) (hx1 : -1000 ≤ x) (hx2 : x ≤ 1000) (_hl : l ≤ 100000) (_hl' : l' ≤ 100000) :
    Calls Tryd.prog 40 #[.int .u64 raw, .agg #[.slice a l c, .int .i64 x], .agg #[.slice a' l' c', .int .i64 x']] w fun ee w' => ee = .returned (.int .i64 (cmpN (2 * magF raw * 10 ^ (-x).toNat) ((A + B) * 10 ^ x.toNat * U74))) ∧ Below w.heap.size w w' := by
  obtain ⟨w1, hw1⟩ : ∃ w1, w1 = w.alloc (.cells #[.slice a l c, .int .i64 x] 55) := ⟨_, rfl⟩
  obtain ⟨w2, hw2⟩ : ∃ w2, w2 = w1.alloc (.cells #[.slice a' l' c', .int .i64 x'] 55) := ⟨_, rfl⟩
  have hz1 : w1.heap.size = w.heap.size + 1 := by rw [hw1]; simp
  have hB1 : Below w.heap.size w w1 := by rw [hw1]; exact (Below.refl _ _).alloc (Nat.le_refl _) _
  have HB2 : Hid (Below w.heap.size w w2) := by show Below _ _ _; rw [hw2]; exact hB1.alloc (by omega) _
  have hx1b : w1.heap[w.heap.size]? = some (.cells #[.slice a l c, .int .i64 x] 55 (0, 0)) := by rw [hw1]; exact heap_alloc_new w _
  have hx2b : w2.heap[w.heap.size]? = some (.cells #[.slice a l c, .int .i64 x] 55 (0, 0)) := by
    rw [hw2]
    exact (Below.heap_alloc w1 _ _ (by omega)).trans hx1b
  have hx3b : w2.heap[w1.heap.size]? = some (.cells #[.slice a' l' c', .int .i64 x'] 55 (0, 0)) := by rw [hw2]; exact heap_alloc_new w1 _
  have HXB : Hid (w2.heap[w.heap.size]? = some (.cells #[.slice a l c, .int .i64 x] 55 (0, 0))) := hx2b
  obtain ⟨cx0, cx1⟩ := num_cells hx2b
  rw [hz1] at hx3b
  obtain ⟨dx0, dx1⟩ := num_cells hx3b
  have HPT : Hid (∀ W : World, Calls Tryd.prog 52 #[.int .u64 raw] W fun e w' => e = .returned (.tuple #[.int .i64 (apartN raw).1, .int .i64 (apartN raw).2]) ∧ w' = W) := fun W => refParts_any raw W (by omega)
  have hlen : (digQ (A + B)).length ≤ 400 := Nat.le_trans (digQ_len j _ hV) hj
  have HAD : Hid (∀ W : World, Below w.heap.size w W → Calls Tryd.prog 72 #[.slice a l c, .slice a' l' c'] W fun e w' => ∃ a c, e = .returned (.slice a (digQ (A + B)).length c) ∧ QAt w' (.slice a (digQ (A + B)).length c) (A + B) ∧ Below W.heap.size W w') := fun W hW => refAdd_any _ _ A B W (h1.below hW) (h2.below hW) (by omega)
  have HTW : Hid (∀ (W : World) (a : Option Addr) (c : Nat), QAt W (.slice a (digQ (A + B)).length c) (A + B) → Calls Tryd.prog 53 #[.int .i64 (2 * ((apartN raw).1 : Int)), .int .i64 (apartN raw).2, .agg #[.slice a (digQ (A + B)).length c, .int .i64 x]] W fun ee w' => ee = .returned (.int .i64 (cmpN (2 * magF raw * 10 ^ (-x).toNat) ((A + B) * 10 ^ x.toNat * U74))) ∧ Below W.heap.size W w') := fun W a c hq => below_twice raw (A + B) _ c j x a W hq h0 hraw hj hV hx1 hx2
  have hap := apart_in h0 hraw
  obtain ⟨hb1, hb2, hb3, hb4⟩ := hap
  generalize (digQ (A + B)).length = L at *
  generalize cmpN (2 * magF raw * 10 ^ (-x).toNat) ((A + B) * 10 ^ x.toNat * U74) = C at *
  generalize (apartN raw).1 = m at *
  generalize (apartN raw).2 = e at *
  clear hx1b hx2b hx3b hB1 h1 h2 hV
  go_enter Tryd.func40, Tryd.ntmps40
  go_wp2_with (first
    | (go_at_call 52; rw [← hw1]; rw [← hw2]; clear hw2 hw1; refine (HPT.out _).mono ?_; clear HPT; rintro e9 w3 ⟨rfl, hw3⟩; have hw3 := hw3.symm; subst hw3)
    | (go_at_call 72; refine (HAD.out _ HB2.out).mono ?_; clear HAD; rintro e9 w4 ⟨a4, c4, rfl, hq4, hb4⟩; have HB4 : Hid (Below w.heap.size w w4) := HB2.out.trans (hb4.mono HB2.out.size); have HQ4 : Hid (QAt w4 (.slice a4 L c4) (A + B)) := hq4; obtain ⟨ey0, ey1⟩ := num_cells ((hb4.block _ (Array.getElem?_eq_some_iff.1 HXB.out).1).trans HXB.out); clear hb4 hq4)
    | (go_at_call 53; refine (HTW.out _ _ _ HQ4.out).mono ?_; clear HTW; rintro e9 w5 ⟨rfl, hb5⟩; have HB5 : Hid (Below w.heap.size w w5) := HB4.out.trans (hb5.mono HB4.out.size); clear hb5))
  go_ret
  exact ⟨rfl, HB5.out⟩
end Go.Proofs.YtinfnkhghmcelaaDoor
