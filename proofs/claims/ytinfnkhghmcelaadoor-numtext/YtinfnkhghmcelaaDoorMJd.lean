/- The document's naturals: the difference. -/
import Derived.Test.YtinfnkhghmcelaaDoorMJa
import Derived.Test.YtinfnkhghmcelaaDoorMPp
namespace Go.Proofs.YtinfnkhghmcelaaDoor
open Go.RowKit Go.Maps

theorem valQ_snoc (a : List Nat) (d : Nat) : valQ (a ++ [d]) = valQ a + 10000 ^ a.length * d := by
  rw [valQ_append]
  simp [valQ]
theorem lt_snocQ {ds : List Nat} (h : ∀ d ∈ ds, d < 10000) {x : Nat} (hx : x < 10000) : ∀ d ∈ ds ++ [x], d < 10000 := fun d hd => by
  rcases List.mem_append.1 hd with h1 | h1
  · exact h d h1
  · rw [List.mem_singleton.1 h1]; exact hx
theorem sub_step {ds es rs : List Nat} {i C C' d f y : Nat} (hr : rs.length = i) (hd : valQ (ds.take (i + 1)) = valQ (ds.take i) + 10000 ^ i * d) (hf : valQ (es.take (i + 1)) = valQ (es.take i) + 10000 ^ i * f) (h : valQ (ds.take i) + 10000 ^ i * C = valQ rs + valQ (es.take i)) (hy : y + f + C = d + 10000 * C') :
    valQ (ds.take (i + 1)) + 10000 ^ (i + 1) * C' = valQ (rs ++ [y]) + valQ (es.take (i + 1)) := by
  rw [hd, hf, valQ_snoc, hr, Nat.pow_succ, Nat.mul_assoc]
  have h9 : 10000 ^ i * (y + f + C) = 10000 ^ i * (d + 10000 * C') := by rw [hy]
  rw [Nat.mul_add, Nat.mul_add, Nat.mul_add] at h9
  omega
theorem takeQ {ds : List Nat} {i : Nat} (h : i < ds.length) : valQ (ds.take (i + 1)) = valQ (ds.take i) + 10000 ^ i * ds[i] := by
  rw [List.take_succ_eq_append_getElem h, valQ_snoc, List.length_take, Nat.min_eq_left (by omega)]
theorem takeQ' {ds : List Nat} {i : Nat} (h : ¬ i < ds.length) : valQ (ds.take (i + 1)) = valQ (ds.take i) + 10000 ^ i * 0 := by
  rw [List.take_of_length_le (by omega), List.take_of_length_le (by omega), Nat.mul_zero, Nat.add_zero]
theorem row_less {w : World} {base n c : Nat} {a : Option Addr} {rs : List Nat} {y : Nat} (h : w.ownsRow base 3 1 (.slice a (n + 1) c) (n + 1) (i64s (rs ++ [y]))) (hn : rs.length = n) : w.ownsRow base 3 1 (.slice a n c) n (i64s rs) := by
  obtain ⟨h1, h2⟩ := h
  refine ⟨by rw [i64s_length, hn, Nat.mul_one], ?_⟩
  rcases h2 with ⟨e, _⟩ | ⟨g, cap, cur, e, hb, hh, hc, hm, hs, ht⟩
  · cases e
  · injection e with e1 e2 e3
    subst e1 e3
    refine Or.inr ⟨g, c, cur, rfl, hb, hh, by omega, hm, hs, ?_⟩
    have h4 : (i64s (rs ++ [y])).take n = i64s rs := by
      rw [i64s_append, List.take_append_of_le_length (by rw [i64s_length, hn]; exact Nat.le_refl _), List.take_of_length_le (by rw [i64s_length, hn]; exact Nat.le_refl _)]
    have h3 := congrArg (List.take n) ht
    rw [List.take_take, Nat.min_eq_left (by omega), h4] at h3
    rw [Nat.mul_one]
    exact h3
theorem row_cap {w : World} {base n c g : Nat} {xs : List Value} (h : w.ownsRow base 3 1 (.slice (some ⟨g, 0, none⟩) n c) n xs) : n ≤ c ∧ c ≤ 9223372036854775807 := by
  rcases h.2 with ⟨e, _⟩ | ⟨g', cap, cur, e, hb, hh, hc, hm, hs, ht⟩
  · cases e
  · injection e with e1 e2 e3
    subst e3
    unfold maxLen at hm
    exact ⟨hc, by omega⟩
theorem sub_end {A B la C v : Nat} (h : A + 10000 ^ la * C = v + B) (hv : v < 10000 ^ la) (hBA : B ≤ A) (hC : C ≤ 1) : v = A - B := by
  rcases Nat.eq_zero_or_pos C with h0 | h0
  · subst h0; omega
  · have : C = 1 := by omega
    subst this
    omega

set_option maxRecDepth 100000 in
set_option maxHeartbeats 1000000 in
theorem refMinus_any (v u : Value) (A B : Nat) (w : World) (h1 : QAt w v A) (h2 : QAt w u B) (hBA : B ≤ A) (hl : (digQ A).length ≤ 40000) :
    Calls Tryd.prog 71 #[v, u] w fun e w' => ∃ a c, e = .returned (.slice a (digQ (A - B)).length c) ∧ DRow w' w.heap.size (.slice a (digQ (A - B)).length c) (digQ (A - B)) ∧ Below w.heap.size w w' := by
  obtain ⟨a, c, rfl, -⟩ := id h1
  obtain ⟨b, c', rfl, -⟩ := id h2
  have hm := digQ_mono hBA
  have HVA : Hid (valQ (digQ A) = A ∧ valQ (digQ B) = B) := ⟨valQ_dig A A (Nat.le_refl _), valQ_dig B B (Nat.le_refl _)⟩
  have HDL : Hid ((∀ d ∈ digQ A, d < 10000) ∧ (∀ d ∈ digQ B, d < 10000)) := ⟨digQ_lt A A (Nat.le_refl _), digQ_lt B B (Nat.le_refl _)⟩
  have HA : Hid (DAt w (.slice a (digQ A).length c) (digQ A)) := h1
  have HB : Hid (DAt w (.slice b (digQ B).length c') (digQ B)) := h2
  clear h1 h2
  generalize digQ A = ds at *
  generalize digQ B = es at *
  go_enter Tryd.func71, Tryd.ntmps71
  go_wp2
  go_loopw [5, 6, 7] (fun sv cv iv wr => ∃ (i : Nat) (rs : List Nat) (C : Nat) (ao : Option Addr) (co : Nat), iv = .int .i64 i ∧ cv = .int .i64 C ∧ C ≤ 1 ∧ sv = .slice ao i co ∧ i ≤ ds.length ∧ Hid (rs.length = i ∧ wr.ownsRow w.heap.size 3 1 (.slice ao i co) i (i64s rs) ∧ (∀ z ∈ rs, z < 10000) ∧ valQ (ds.take i) + 10000 ^ i * C = valQ rs + valQ (es.take i) ∧ Below w.heap.size w wr)) (fun _ _ iv _ => ds.length - (intOf iv).toNat)
  case atStart => exact ⟨0, [], 0, none, 0, rfl, rfl, by omega, rfl, by omega, rfl, World.ownsRow_nil _ _ _ _, fun z hz => by simp at hz, rfl, Below.refl _ _⟩
  case round =>
    obtain ⟨i, rs, C, ao, co, rfl, rfl, hC, rfl, hi6, HI⟩ := hrel
    have HRW : Hid (wr.ownsRow w.heap.size 3 1 (.slice ao i co) i (i64s rs)) := HI.out.2.1
    have HBL : Hid (Below w.heap.size w wr) := HI.out.2.2.2.2
    have hsz := HI.out.2.2.2.2.size
    by_cases hla : i < ds.length
    · have hlai : (i : Int) < ds.length := by omega
      obtain ⟨b1, o1, rfl, hc1⟩ := HA.out.one i hla HBL.out
      have hdl : ds[i] < 10000 := HDL.out.1 _ (List.getElem_mem hla)
      have hd := takeQ hla
      by_cases hlb : i < es.length
      · have hlbi : (i : Int) < es.length := by omega
        obtain ⟨b2, o2, rfl, hc2⟩ := HB.out.one i hlb HBL.out
        have hel : es[i] < 10000 := HDL.out.2 _ (List.getElem_mem hlb)
        have hf := takeQ hlb
        have HFF : Hid True := trivial
        generalize ds[i] = d at *
        generalize es[i] = f at *
        by_cases hneg : d < C + f
        · have hx : ((d : Int) - C - f) < 0 := by omega
          have HN : Hid (valQ (ds.take (i + 1)) + 10000 ^ (i + 1) * 1 = valQ (rs ++ [(d + 10000 - C - f)]) + valQ (es.take (i + 1))) := sub_step HI.out.1 hd hf HI.out.2.2.2.1 (by omega)
          have HRL : Hid ((rs ++ [(d + 10000 - C - f)]).length = i + 1 ∧ (∀ z ∈ rs ++ [(d + 10000 - C - f)], z < 10000)) := ⟨by simp [HI.out.1], lt_snocQ HI.out.2.2.1 (by omega)⟩
          clear HI hd hf HFF
          go_wp2_with (at_builtin; refine wpList_append_num _ rfl _ _ rfl w.heap.size ao i co rs rfl (World.ownsRow.alloc HRW.out _) wr.heap.size (((d : Int) - C - f) + 10000) (d + 10000 - C - f) (by omega) rfl (heap_alloc_new wr _) (by omega) (by simp; omega) ?_; intro a3 c3 w3 hr3 hg3)
          go_roundw
          case rel =>
            refine ⟨i + 1, rs ++ [(d + 10000 - C - f)], 1, a3, c3, by go_num, rfl, by omega, rfl, by omega, HRL.out.1, hr3, HRL.out.2, HN.out, ?_⟩
            exact (HBL.out.alloc hsz _).grown hg3 (by simp; omega) (fun j hj => (HRW.out.lt j hj).1)
          case measure => simp [intOf]; omega
        · have hx : ¬ ((d : Int) - C - f) < 0 := by omega
          have HN : Hid (valQ (ds.take (i + 1)) + 10000 ^ (i + 1) * 0 = valQ (rs ++ [(d - C - f)]) + valQ (es.take (i + 1))) := sub_step HI.out.1 hd hf HI.out.2.2.2.1 (by omega)
          have HRL : Hid ((rs ++ [(d - C - f)]).length = i + 1 ∧ (∀ z ∈ rs ++ [(d - C - f)], z < 10000)) := ⟨by simp [HI.out.1], lt_snocQ HI.out.2.2.1 (by omega)⟩
          clear HI hd hf HFF
          go_wp2_with (at_builtin; refine wpList_append_num _ rfl _ _ rfl w.heap.size ao i co rs rfl (World.ownsRow.alloc HRW.out _) wr.heap.size ((d : Int) - C - f) (d - C - f) (by omega) rfl (heap_alloc_new wr _) (by omega) (by simp; omega) ?_; intro a3 c3 w3 hr3 hg3)
          go_roundw
          case rel =>
            refine ⟨i + 1, rs ++ [(d - C - f)], 0, a3, c3, by go_num, rfl, by omega, rfl, by omega, HRL.out.1, hr3, HRL.out.2, HN.out, ?_⟩
            exact (HBL.out.alloc hsz _).grown hg3 (by simp; omega) (fun j hj => (HRW.out.lt j hj).1)
          case measure => simp [intOf]; omega
      · have hlbi : ¬ (i : Int) < es.length := by omega
        have hf := takeQ' hlb
        have HFF : Hid True := trivial
        generalize ds[i] = d at *
        by_cases hneg : d < C
        · have hx : ((d : Int) - C) < 0 := by omega
          have HN : Hid (valQ (ds.take (i + 1)) + 10000 ^ (i + 1) * 1 = valQ (rs ++ [(d + 10000 - C)]) + valQ (es.take (i + 1))) := sub_step HI.out.1 hd hf HI.out.2.2.2.1 (by omega)
          have HRL : Hid ((rs ++ [(d + 10000 - C)]).length = i + 1 ∧ (∀ z ∈ rs ++ [(d + 10000 - C)], z < 10000)) := ⟨by simp [HI.out.1], lt_snocQ HI.out.2.2.1 (by omega)⟩
          clear HI hd hf HFF
          go_wp2_with (at_builtin; refine wpList_append_num _ rfl _ _ rfl w.heap.size ao i co rs rfl (World.ownsRow.alloc HRW.out _) wr.heap.size (((d : Int) - C) + 10000) (d + 10000 - C) (by omega) rfl (heap_alloc_new wr _) (by omega) (by simp; omega) ?_; intro a3 c3 w3 hr3 hg3)
          go_roundw
          case rel =>
            refine ⟨i + 1, rs ++ [(d + 10000 - C)], 1, a3, c3, by go_num, rfl, by omega, rfl, by omega, HRL.out.1, hr3, HRL.out.2, HN.out, ?_⟩
            exact (HBL.out.alloc hsz _).grown hg3 (by simp; omega) (fun j hj => (HRW.out.lt j hj).1)
          case measure => simp [intOf]; omega
        · have hx : ¬ ((d : Int) - C) < 0 := by omega
          have HN : Hid (valQ (ds.take (i + 1)) + 10000 ^ (i + 1) * 0 = valQ (rs ++ [(d - C)]) + valQ (es.take (i + 1))) := sub_step HI.out.1 hd hf HI.out.2.2.2.1 (by omega)
          have HRL : Hid ((rs ++ [(d - C)]).length = i + 1 ∧ (∀ z ∈ rs ++ [(d - C)], z < 10000)) := ⟨by simp [HI.out.1], lt_snocQ HI.out.2.2.1 (by omega)⟩
          clear HI hd hf HFF
          go_wp2_with (at_builtin; refine wpList_append_num _ rfl _ _ rfl w.heap.size ao i co rs rfl (World.ownsRow.alloc HRW.out _) wr.heap.size ((d : Int) - C) (d - C) (by omega) rfl (heap_alloc_new wr _) (by omega) (by simp; omega) ?_; intro a3 c3 w3 hr3 hg3)
          go_roundw
          case rel =>
            refine ⟨i + 1, rs ++ [(d - C)], 0, a3, c3, by go_num, rfl, by omega, rfl, by omega, HRL.out.1, hr3, HRL.out.2, HN.out, ?_⟩
            exact (HBL.out.alloc hsz _).grown hg3 (by simp; omega) (fun j hj => (HRW.out.lt j hj).1)
          case measure => simp [intOf]; omega
    · have hlai : ¬ (i : Int) < ds.length := by omega
      obtain rfl : i = ds.length := by omega
      have hv := HI.out.2.2.2.1
      rw [List.take_length, List.take_of_length_le (by omega), HVA.out.1, HVA.out.2] at hv
      have hvl := valQ_take HI.out.2.2.1
      rw [HI.out.1] at hvl
      have hval := sub_end hv hvl hBA hC
      have HL2 : Hid (rs.length = ds.length ∧ wr.ownsRow w.heap.size 3 1 (.slice ao ds.length co) ds.length (i64s rs) ∧ (∀ z ∈ rs, z < 10000) ∧ valQ rs = A - B) := ⟨HI.out.1, HI.out.2.1, HI.out.2.2.1, hval⟩
      clear HI hv hvl hval HRW hla
      go_wp2
      go_loop [5] (fun sv => ∃ (n : Nat) (rs : List Nat), sv = .slice ao n co ∧ n ≤ ds.length ∧ Hid (rs.length = n ∧ wr.ownsRow w.heap.size 3 1 (.slice ao n co) n (i64s rs) ∧ (∀ z ∈ rs, z < 10000) ∧ valQ rs = A - B)) (fun sv => match sv with | .slice _ n _ => n | _ => 0)
      case atStart => exact ⟨ds.length, rs, rfl, Nat.le_refl _, HL2.out⟩
      case round =>
        clear HL2
        obtain ⟨n, rs, rfl, hn, HI⟩ := hrel
        by_cases hn0 : n = 0
        · subst hn0
          have HE : Hid (digQ (A - B) = rs ∧ rs.length = 0) := by
            have h9 : rs = [] := List.eq_nil_of_length_eq_zero HI.out.1
            have h8 := HI.out.2.2.2
            rw [h9] at h8
            refine ⟨?_, HI.out.1⟩
            rw [← h8, h9]
            exact digQ_zero
          go_wp2
          go_ret
          exact ⟨ao, co, by rw [HE.out.1, HE.out.2]; rfl, by rw [HE.out.1, DRow, HE.out.2]; exact HI.out.2.1, HBL.out⟩
        · obtain ⟨q, rfl⟩ : ∃ q, n = q + 1 := ⟨n - 1, by omega⟩
          obtain ⟨g, rfl, hg, hcell, hfr⟩ := row_at HI.out.2.1 HI.out.1.symm (show q < q + 1 by omega)
          have hql : q < rs.length := by rw [HI.out.1]; omega
          obtain ⟨hcap1, hcap2⟩ := row_cap HI.out.2.1
          have hcap3 : (q : Int) ≤ co := by omega
          have hsp : rs = rs.take q ++ [rs.getD q 0] := by
            have h9 := List.take_succ_eq_append_getElem hql
            rw [List.take_of_length_le (by rw [HI.out.1]; exact Nat.le_refl _)] at h9
            rw [List.getD_eq_getElem?_getD, List.getElem?_eq_getElem hql]
            exact h9
          have htl : (rs.take q).length = q := by rw [List.length_take]; omega
          have hqi : (0 : Int) < ((q + 1 : Nat) : Int) := by omega
          by_cases h0 : rs.getD q 0 = 0
          · have HNX : Hid ((rs.take q).length = q ∧ wr.ownsRow w.heap.size 3 1 (.slice (some ⟨g, 0, none⟩) q co) q (i64s (rs.take q)) ∧ (∀ z ∈ rs.take q, z < 10000) ∧ valQ (rs.take q) = A - B) := by
              have hr := HI.out.2.1
              have hvv := HI.out.2.2.2
              rw [hsp] at hr hvv
              rw [h0, valQ_snoc, Nat.mul_zero, Nat.add_zero] at hvv
              exact ⟨htl, row_less hr htl, fun z hz => HI.out.2.2.1 z (List.mem_of_mem_take hz), hvv⟩
            rw [h0] at hcell
            clear HI hsp h0 htl hql
            go_wp2
            go_round
            case rel => exact ⟨q, rs.take q, rfl, by omega, HNX.out⟩
            case measure => simp
          · have HE : Hid (digQ (A - B) = rs ∧ rs.length = q + 1) := by
              refine ⟨?_, HI.out.1⟩
              rw [← HI.out.2.2.2]
              refine digQ_ok ⟨HI.out.2.2.1, ?_⟩
              rw [hsp, List.getLast?_concat]
              intro e9
              exact h0 (Option.some.inj e9)
            have h0b : ((rs.getD q 0 : Nat) : Int) ≠ 0 := by omega
            have h0c : (((rs.getD q 0 : Nat) : Int) == 0) = false := by rw [beq_eq_false_iff_ne]; exact h0b
            have HRW2 : Hid (wr.ownsRow w.heap.size 3 1 (.slice (some ⟨g, 0, none⟩) (q + 1) co) (q + 1) (i64s rs)) := HI.out.2.1
            clear HI hsp h0 htl hql h0b
            generalize rs.getD q 0 = z at *
            go_wp2
            go_ret
            exact ⟨_, co, by rw [HE.out.1, HE.out.2]; rfl, by rw [HE.out.1, DRow, HE.out.2]; exact HRW2.out, HBL.out⟩
end Go.Proofs.YtinfnkhghmcelaaDoor
