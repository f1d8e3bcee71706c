/- The document's naturals: times 10 to some power. -/
import Derived.Test.YtinfnkhghmcelaaDoorMHc
namespace Go.Proofs.YtinfnkhghmcelaaDoor
open Go.RowKit Go.Maps

theorem made_nums (c : Nat) : madeCells (Value.int .i64 0).cells c = (i64s (List.replicate c 0)).toArray := by
  apply Array.ext
  · simp [size_madeCells, i64s]
  · intro i h1 h2
    have e : i % 1 = 0 := Nat.mod_one i
    simp [madeCells, i64s, Value.cells, e]
theorem digQ_shift {M : Nat} (h : 0 < M) : ∀ q, digQ (M * 10000 ^ q) = List.replicate q 0 ++ digQ M
  | 0 => by simp
  | q + 1 => by
    have hp : 0 < M * 10000 ^ q := Nat.mul_pos h (Nat.pow_pos (by decide))
    rw [show M * 10000 ^ (q + 1) = 10000 * (M * 10000 ^ q) by rw [Nat.pow_succ, ← Nat.mul_assoc, Nat.mul_comm], digQ_pos (by omega), Nat.mul_mod_right, Nat.mul_div_cancel_left _ (by decide), digQ_shift h q]
    rfl
theorem i64s_one (ds : List Nat) : ∀ u ∈ i64s ds, u.oneCell' = true := fun u hu => by
  simp only [i64s, List.mem_map] at hu
  obtain ⟨x, _, rfl⟩ := hu
  rfl
theorem i64s_length (ds : List Nat) : (i64s ds).length = ds.length := by simp [i64s]
/-- append of a natural's digits, of which there are some. -/
theorem wpList_append_nat (w : World) {ops : Array Oper} {rest : List Oper} {o : Oper} {a : Act} {Q : Exit → Act → World → Prop} (hgd : o.guard = none) (s x : Operand)
    (ho : o.op = .call { callee := .builtin .append, args := #[s, x], argTypes := #[53, 53] }) (base : Nat) (ao : Option Addr) (n co : Nat) (es : List Nat) (hs : a.eval s = .slice ao n co) (hrow : w.ownsRow base 3 1 (.slice ao n co) n (i64s es))
    (ds : List Nat) (m : Nat) (ad : Option Addr) (cx : Nat) (hm : m = ds.length) (hx : a.eval x = .slice ad m cx) (hd : DAt w (.slice ad m cx) ds) (h0 : 0 < m) (hl : n + m ≤ 100000) (hbase : base ≤ w.heap.size)
    (h : ∀ a' c' w', w'.ownsRow base 3 1 (.slice a' (n + m) c') (n + m) (i64s (es ++ ds)) → w.grownBy w' (Value.slice ao n co).ownBlock → wpList Tryd.prog ops Q rest (a.put o.dst (.slice a' (n + m) c')) w') : wpList Tryd.prog ops Q (o :: rest) a w := by
  obtain ⟨i0, hi0, hz0, hz1, hz2⟩ := info_parts infoI64
  subst hm
  obtain ⟨b, oo, rfl, -⟩ := hd.one 0 h0 (Below.refl _ _)
  refine wpList_append_own_at w hgd s x 53 ho base 3 i0 _ 1 8 Tryd.underlying53 hi0 hz0 hz1 hz2 rfl (by decide) (.slice ao n co) n (i64s es) hs hrow ⟨b, oo, none⟩ ds.length cx (i64s ds) hx (by rw [i64s_length]; omega) (fun j u hj => ?_) (i64s_one ds) (by unfold maxLen; omega) (by omega) hbase ?_
  · have hjl : j < ds.length := by
      rcases Nat.lt_or_ge j ds.length with h1 | h1
      · exact h1
      · rw [List.getElem?_eq_none (by rw [i64s_length]; exact h1)] at hj
        cases hj
    obtain ⟨b', o', e, hc⟩ := hd.one j hjl (Below.refl _ _)
    cases e
    rw [Addr.add_lit, hc]
    have e2 : (i64s ds)[j]? = some (.int .i64 (ds[j] : Nat)) := by simp [i64s, hjl]
    rw [e2] at hj
    exact hj
  · intro v1 w1 hr1 hg1 hnil1 hloc1
    obtain ⟨a1, c1, rfl⟩ := slice_of_row hr1
    refine h a1 c1 w1 ?_ hg1
    rw [i64s_append]
    exact hr1

set_option maxRecDepth 100000 in
set_option maxHeartbeats 1000000 in
theorem refPow10_any (v : Value) (N n : Nat) (w : World) (h : QAt w v N) (hn : n ≤ 100000) (hl : (digQ (N * 10 ^ n)).length ≤ 40000) :
    Calls Tryd.prog 69 #[v, .int .i64 10, .int .i64 n] w fun e w' => ∃ v', e = .returned v' ∧ QAt w' v' (N * 10 ^ n) ∧ Below w.heap.size w w' := by
  obtain ⟨R, hR⟩ : ∃ R, R = N * 10 ^ n := ⟨_, rfl⟩
  rw [← hR] at hl ⊢
  have HLR : Hid ((digQ R).length ≤ 40000) := hl
  obtain ⟨a, c, rfl⟩ := h.form
  obtain ⟨l, hl0⟩ : ∃ l, l = (digQ N).length := ⟨_, rfl⟩
  rw [← hl0] at h ⊢
  have HI : Hid (l = (digQ N).length ∧ QAt w (.slice a l c) N ∧ N * 10 ^ n = R ∧ Below w.heap.size w w) := ⟨hl0, h, hR.symm, Below.refl _ _⟩
  have hl5 : l ≤ 40000 := by
    rw [hl0]
    exact Nat.le_trans (digQ_mono (by rw [hR]; exact Nat.le_mul_of_pos_right _ (Nat.pow_pos (by decide)))) hl
  clear hl hR hl0 h
  by_cases hbig : 4 ≤ n ∧ 0 < l
  · obtain ⟨h4, hl0⟩ := hbig
    have h4i : (4 : Int) ≤ n := by omega
    have hl0i : (0 : Int) < l := by omega
    obtain ⟨q, hq⟩ : ∃ q, q = n / 4 := ⟨_, rfl⟩
    obtain ⟨m, hm⟩ : ∃ m, m = n % 4 := ⟨_, rfl⟩
    have hqi : (n : Int) / 4 = (q : Int) := by omega
    have hqt : (n : Int).tdiv 4 = (q : Int) := by rw [hq]; exact (Int.ofNat_tdiv n 4).symm
    have hmi : (n : Int) % 4 = (m : Int) := by omega
    have hmt : (n : Int).tmod 4 = (m : Int) := by rw [hm]; exact (Int.ofNat_tmod n 4).symm
    have hN0 : 0 < N := by
      rcases Nat.eq_zero_or_pos N with h0 | h0
      · have := HI.out.1
        rw [h0, digQ_zero] at this
        simp at this
        omega
      · exact h0
    have HE : Hid (N * 10000 ^ q * 10 ^ m = R) := by
      show _ = _
      rw [← HI.out.2.2.1, Nat.mul_assoc]
      congr 1
      rw [show (10000 : Nat) = 10 ^ 4 from rfl, ← Nat.pow_mul, ← Nat.pow_add]
      congr 1
      omega
    have HSH : Hid (digQ (N * 10000 ^ q) = List.replicate q 0 ++ digQ N) := digQ_shift hN0 q
    have hb5 : q + l ≤ 40000 := by
      have h8 := Nat.le_trans (digQ_mono (show N * 10000 ^ q ≤ R by rw [← HE.out]; exact Nat.le_mul_of_pos_right _ (Nat.pow_pos (by decide)))) HLR.out
      rw [HSH.out, List.length_append, List.length_replicate, ← HI.out.1] at h8
      exact h8
    obtain ⟨i0, hi0, hz0, hz1, hz2⟩ := info_parts infoI64
    obtain ⟨W1, hmk, hown1, hgrow1⟩ := run_make_full (P := Tryd.prog) w w.heap.size 53 3 i0 _ 1 Tryd.underlying53 hi0 hz0 hz1 .i64 .i64 q (by rw [hz2]; omega) (by unfold maxLen; omega) (Nat.le_refl _)
    rw [Nat.mul_one, made_nums] at hown1
    have hb1 : Below w.heap.size w W1 := (Below.refl _ _).grown hgrow1 (Nat.le_refl _) (fun j hj => by cases hj)
    have HROW : Hid (W1.ownsRow w.heap.size 3 1 (.slice (some ⟨w.heap.size, 0, none⟩) q q) q (i64s (List.replicate q 0))) := hown1
    have HB1 : Hid (Below w.heap.size w W1) := hb1
    have HD1 : Hid (DAt W1 (.slice a l c) (digQ N)) := HI.out.2.1.below hb1
    have HL : Hid (l = (digQ N).length) := HI.out.1
    have hm4 : m ≤ 100000 := by omega
    clear hown1 hgrow1 hb1 hz0 hz1 hz2 hi0 HI hq hm h4 hN0
    go_enter Tryd.func69, Tryd.ntmps69
    go_wp2
    go_loopw [0, 2] (fun av nv wr => av = .slice a l c ∧ nv = .int .i64 n ∧ wr = w) (fun _ _ _ => 0)
    case atStart => exact ⟨rfl, rfl, rfl⟩
    case round =>
      obtain ⟨rfl, rfl, hw⟩ := hrel
      have hw := hw.symm
      subst hw
      go_wp2_with (at_builtin; refine wpList_append_nat _ rfl _ _ rfl w.heap.size (some ⟨w.heap.size, 0, none⟩) q q (List.replicate q 0) rfl HROW.out (digQ N) l a c HL.out rfl HD1.out hl0 (by omega) HB1.out.size ?_; intro a3 c3 w3 hr3 hg3)
      have HI : Hid (q + l = (digQ (N * 10000 ^ q)).length ∧ QAt w3 (.slice a3 (q + l) c3) (N * 10000 ^ q) ∧ N * 10000 ^ q * 10 ^ m = R ∧ Below w.heap.size w w3) := by
        have e1 : (digQ (N * 10000 ^ q)).length = q + l := by rw [HSH.out, List.length_append, List.length_replicate, ← HL.out]
        refine ⟨e1.symm, ?_, HE.out, HB1.out.grown hg3 HB1.out.size (fun j hj => (HROW.out.lt j hj).1)⟩
        have h9 : DRow w3 w.heap.size (.slice a3 (q + l) c3) (digQ (N * 10000 ^ q)) := by
          unfold DRow
          rw [e1, HSH.out]
          exact hr3
        exact h9.at
      have HBL : Hid (Below w.heap.size w w3) := HI.out.2.2.2
      clear hr3 hg3 HROW HD1 HB1 HE HSH HL hl5 hmk
      generalize N * 10000 ^ q = M at *
      generalize hll : q + l = l3 at *
      clear hll
      go_loopw [0, 7] (fun av iv wu => ∃ (M i l : Nat) (a : Option Addr) (c : Nat), av = .slice a l c ∧ iv = .int .i64 i ∧ i ≤ m ∧ l ≤ 40000 ∧ Hid (l = (digQ M).length ∧ QAt wu (.slice a l c) M ∧ M * 10 ^ (m - i) = R ∧ Below w.heap.size w wu)) (fun _ iv _ => m - (intOf iv).toNat)
      case atStart => exact ⟨M, 0, l3, a3, c3, rfl, rfl, Nat.zero_le _, by rw [HI.out.1]; exact Nat.le_trans (digQ_mono (by rw [← HI.out.2.2.1]; exact Nat.le_mul_of_pos_right _ (Nat.pow_pos (by decide)))) HLR.out, HI.out.1, HI.out.2.1, HI.out.2.2.1, HI.out.2.2.2⟩
      case round =>
        clear HI HBL
        obtain ⟨M, i, l, a, c, rfl, rfl, hi, hl4, HI⟩ := hrel
        have HBL : Hid (Below w.heap.size w wr) := HI.out.2.2.2
        by_cases hlt : i < m
        · have hlti : (i : Int) < m := by omega
          by_cases h0 : l = 0
          · have hM : M = 0 := digQ_nil.1 (by rw [← HI.out.1]; exact h0)
            have HRR : Hid (R = M) := by show _ = _; rw [← HI.out.2.2.1, hM]; simp
            have HQ : Hid (QAt wr (.slice a l c) M) := HI.out.2.1
            have h0i : ¬ (0 : Int) < l := by omega
            clear HI hM h0
            go_wp2
            go_ret
            exact ⟨_, rfl, by rw [HRR.out]; exact HQ.out, HBL.out⟩
          · have h0i : (0 : Int) < l := by omega
            have hMR : M ≤ R := by rw [← HI.out.2.2.1]; exact Nat.le_mul_of_pos_right _ (Nat.pow_pos (by decide))
            have ht := refTimes_nat (.slice a l c) M 10 0 wr HI.out.2.1 (by decide) (by decide) (by decide) (Nat.le_trans (digQ_mono hMR) (Nat.le_trans HLR.out (by decide)))
            have ht : Calls Tryd.prog 27 #[.slice a l c, .int .i64 10, .int .i64 0] wr fun e w' => ∃ v', e = .returned v' ∧ QAt w' v' (M * 10 + 0) ∧ (∃ a c, v' = .slice a (digQ (M * 10 + 0)).length c) ∧ DRow w' wr.heap.size v' (digQ (M * 10 + 0)) ∧ Below wr.heap.size wr w' := ht
            have HE : Hid ((M * 10 + 0) * 10 ^ (m - (i + 1)) = R) := by
              show _ = _
              rw [← HI.out.2.2.1, Nat.add_zero, Nat.mul_assoc]
              congr 1
              rw [show m - i = (m - (i + 1)) + 1 by omega, Nat.pow_succ, Nat.mul_comm]
            have HM2 : Hid ((digQ (M * 10 + 0)).length ≤ 40000) := Nat.le_trans (digQ_mono (by rw [← HE.out]; exact Nat.le_mul_of_pos_right _ (Nat.pow_pos (by decide)))) HLR.out
            clear HI hMR
            generalize M * 10 + 0 = M2 at *
            go_wp2_with (go_at_call 27; refine ht.mono ?_; clear ht; rintro e w1 ⟨v1, rfl, hq1, ⟨a1, c1, rfl⟩, -, hb1⟩; have HQ1 : Hid (QAt w1 (.slice a1 (digQ M2).length c1) M2) := hq1; have HB1 : Hid (Below w.heap.size w w1) := HBL.out.trans (hb1.mono HBL.out.size); clear hq1 hb1; obtain ⟨l1, hl1⟩ : ∃ l1, l1 = (digQ M2).length := ⟨_, rfl⟩; rw [← hl1] at HQ1 ⊢; have HL1 : Hid (l1 = (digQ M2).length) := hl1; clear hl1)
            go_roundw
            case rel => exact ⟨M2, i + 1, l1, a1, c1, rfl, by go_num, by omega, by rw [HL1.out]; exact HM2.out, HL1.out, HQ1.out, HE.out, HB1.out⟩
            case measure => simp [intOf]; omega
        · have hlti : ¬ (i : Int) < m := by omega
          have HRR : Hid (R = M) := by show _ = _; rw [← HI.out.2.2.1, show m - i = 0 by omega]; simp
          have HQ : Hid (QAt wr (.slice a l c) M) := HI.out.2.1
          clear HI
          go_wp2
          go_ret
          exact ⟨_, rfl, by rw [HRR.out]; exact HQ.out, HBL.out⟩
  · have HBL : Hid (Below w.heap.size w w) := HI.out.2.2.2
    by_cases h4 : 4 ≤ n
    · have h4i : (4 : Int) ≤ n := by omega
      have hl0i : ¬ (0 : Int) < l := by omega
      clear hbig h4
      go_enter Tryd.func69, Tryd.ntmps69
      go_wp2
      go_loopw [0, 2] (fun av nv wr => av = .slice a l c ∧ nv = .int .i64 n ∧ wr = w) (fun _ _ _ => 0)
      case atStart => exact ⟨rfl, rfl, rfl⟩
      case round =>
        obtain ⟨rfl, rfl, hw⟩ := hrel
        have hw := hw.symm
        subst hw
        go_wp2
        go_loopw [0, 7] (fun av iv wu => ∃ (M i l : Nat) (a : Option Addr) (c : Nat), av = .slice a l c ∧ iv = .int .i64 i ∧ i ≤ n ∧ l ≤ 40000 ∧ Hid (l = (digQ M).length ∧ QAt wu (.slice a l c) M ∧ M * 10 ^ (n - i) = R ∧ Below w.heap.size w wu)) (fun _ iv _ => n - (intOf iv).toNat)
        case atStart => exact ⟨N, 0, l, a, c, rfl, rfl, Nat.zero_le _, by rw [HI.out.1]; exact Nat.le_trans (digQ_mono (by rw [← HI.out.2.2.1]; exact Nat.le_mul_of_pos_right _ (Nat.pow_pos (by decide)))) HLR.out, HI.out.1, HI.out.2.1, HI.out.2.2.1, HI.out.2.2.2⟩
        case round =>
          clear HI HBL
          obtain ⟨M, i, l, a, c, rfl, rfl, hi, hl4, HI⟩ := hrel
          have HBL : Hid (Below w.heap.size w wr) := HI.out.2.2.2
          by_cases hlt : i < n
          · have hlti : (i : Int) < n := by omega
            by_cases h0 : l = 0
            · have hM : M = 0 := digQ_nil.1 (by rw [← HI.out.1]; exact h0)
              have HRR : Hid (R = M) := by show _ = _; rw [← HI.out.2.2.1, hM]; simp
              have HQ : Hid (QAt wr (.slice a l c) M) := HI.out.2.1
              have h0i : ¬ (0 : Int) < l := by omega
              clear HI hM h0
              go_wp2
              go_ret
              exact ⟨_, rfl, by rw [HRR.out]; exact HQ.out, HBL.out⟩
            · have h0i : (0 : Int) < l := by omega
              have hMR : M ≤ R := by rw [← HI.out.2.2.1]; exact Nat.le_mul_of_pos_right _ (Nat.pow_pos (by decide))
              have ht := refTimes_nat (.slice a l c) M 10 0 wr HI.out.2.1 (by decide) (by decide) (by decide) (Nat.le_trans (digQ_mono hMR) (Nat.le_trans HLR.out (by decide)))
              have ht : Calls Tryd.prog 27 #[.slice a l c, .int .i64 10, .int .i64 0] wr fun e w' => ∃ v', e = .returned v' ∧ QAt w' v' (M * 10 + 0) ∧ (∃ a c, v' = .slice a (digQ (M * 10 + 0)).length c) ∧ DRow w' wr.heap.size v' (digQ (M * 10 + 0)) ∧ Below wr.heap.size wr w' := ht
              have HE : Hid ((M * 10 + 0) * 10 ^ (n - (i + 1)) = R) := by
                show _ = _
                rw [← HI.out.2.2.1, Nat.add_zero, Nat.mul_assoc]
                congr 1
                rw [show n - i = (n - (i + 1)) + 1 by omega, Nat.pow_succ, Nat.mul_comm]
              have HM2 : Hid ((digQ (M * 10 + 0)).length ≤ 40000) := Nat.le_trans (digQ_mono (by rw [← HE.out]; exact Nat.le_mul_of_pos_right _ (Nat.pow_pos (by decide)))) HLR.out
              clear HI hMR
              generalize M * 10 + 0 = M2 at *
              go_wp2_with (go_at_call 27; refine ht.mono ?_; clear ht; rintro e w1 ⟨v1, rfl, hq1, ⟨a1, c1, rfl⟩, -, hb1⟩; have HQ1 : Hid (QAt w1 (.slice a1 (digQ M2).length c1) M2) := hq1; have HB1 : Hid (Below w.heap.size w w1) := HBL.out.trans (hb1.mono HBL.out.size); clear hq1 hb1; obtain ⟨l1, hl1⟩ : ∃ l1, l1 = (digQ M2).length := ⟨_, rfl⟩; rw [← hl1] at HQ1 ⊢; have HL1 : Hid (l1 = (digQ M2).length) := hl1; clear hl1)
              go_roundw
              case rel => exact ⟨M2, i + 1, l1, a1, c1, rfl, by go_num, by omega, by rw [HL1.out]; exact HM2.out, HL1.out, HQ1.out, HE.out, HB1.out⟩
              case measure => simp [intOf]; omega
          · have hlti : ¬ (i : Int) < n := by omega
            have HRR : Hid (R = M) := by show _ = _; rw [← HI.out.2.2.1, show n - i = 0 by omega]; simp
            have HQ : Hid (QAt wr (.slice a l c) M) := HI.out.2.1
            clear HI
            go_wp2
            go_ret
            exact ⟨_, rfl, by rw [HRR.out]; exact HQ.out, HBL.out⟩
    · have h4i : ¬ (4 : Int) ≤ n := by omega
      clear hbig h4
      go_enter Tryd.func69, Tryd.ntmps69
      go_wp2
      go_loopw [0, 2] (fun av nv wr => av = .slice a l c ∧ nv = .int .i64 n ∧ wr = w) (fun _ _ _ => 0)
      case atStart => exact ⟨rfl, rfl, rfl⟩
      case round =>
        obtain ⟨rfl, rfl, hw⟩ := hrel
        have hw := hw.symm
        subst hw
        go_wp2
        go_loopw [0, 7] (fun av iv wu => ∃ (M i l : Nat) (a : Option Addr) (c : Nat), av = .slice a l c ∧ iv = .int .i64 i ∧ i ≤ n ∧ l ≤ 40000 ∧ Hid (l = (digQ M).length ∧ QAt wu (.slice a l c) M ∧ M * 10 ^ (n - i) = R ∧ Below w.heap.size w wu)) (fun _ iv _ => n - (intOf iv).toNat)
        case atStart => exact ⟨N, 0, l, a, c, rfl, rfl, Nat.zero_le _, by rw [HI.out.1]; exact Nat.le_trans (digQ_mono (by rw [← HI.out.2.2.1]; exact Nat.le_mul_of_pos_right _ (Nat.pow_pos (by decide)))) HLR.out, HI.out.1, HI.out.2.1, HI.out.2.2.1, HI.out.2.2.2⟩
        case round =>
          clear HI HBL
          obtain ⟨M, i, l, a, c, rfl, rfl, hi, hl4, HI⟩ := hrel
          have HBL : Hid (Below w.heap.size w wr) := HI.out.2.2.2
          by_cases hlt : i < n
          · have hlti : (i : Int) < n := by omega
            by_cases h0 : l = 0
            · have hM : M = 0 := digQ_nil.1 (by rw [← HI.out.1]; exact h0)
              have HRR : Hid (R = M) := by show _ = _; rw [← HI.out.2.2.1, hM]; simp
              have HQ : Hid (QAt wr (.slice a l c) M) := HI.out.2.1
              have h0i : ¬ (0 : Int) < l := by omega
              clear HI hM h0
              go_wp2
              go_ret
              exact ⟨_, rfl, by rw [HRR.out]; exact HQ.out, HBL.out⟩
            · have h0i : (0 : Int) < l := by omega
              have hMR : M ≤ R := by rw [← HI.out.2.2.1]; exact Nat.le_mul_of_pos_right _ (Nat.pow_pos (by decide))
              have ht := refTimes_nat (.slice a l c) M 10 0 wr HI.out.2.1 (by decide) (by decide) (by decide) (Nat.le_trans (digQ_mono hMR) (Nat.le_trans HLR.out (by decide)))
              have ht : Calls Tryd.prog 27 #[.slice a l c, .int .i64 10, .int .i64 0] wr fun e w' => ∃ v', e = .returned v' ∧ QAt w' v' (M * 10 + 0) ∧ (∃ a c, v' = .slice a (digQ (M * 10 + 0)).length c) ∧ DRow w' wr.heap.size v' (digQ (M * 10 + 0)) ∧ Below wr.heap.size wr w' := ht
              have HE : Hid ((M * 10 + 0) * 10 ^ (n - (i + 1)) = R) := by
                show _ = _
                rw [← HI.out.2.2.1, Nat.add_zero, Nat.mul_assoc]
                congr 1
                rw [show n - i = (n - (i + 1)) + 1 by omega, Nat.pow_succ, Nat.mul_comm]
              have HM2 : Hid ((digQ (M * 10 + 0)).length ≤ 40000) := Nat.le_trans (digQ_mono (by rw [← HE.out]; exact Nat.le_mul_of_pos_right _ (Nat.pow_pos (by decide)))) HLR.out
              clear HI hMR
              generalize M * 10 + 0 = M2 at *
              go_wp2_with (go_at_call 27; refine ht.mono ?_; clear ht; rintro e w1 ⟨v1, rfl, hq1, ⟨a1, c1, rfl⟩, -, hb1⟩; have HQ1 : Hid (QAt w1 (.slice a1 (digQ M2).length c1) M2) := hq1; have HB1 : Hid (Below w.heap.size w w1) := HBL.out.trans (hb1.mono HBL.out.size); clear hq1 hb1; obtain ⟨l1, hl1⟩ : ∃ l1, l1 = (digQ M2).length := ⟨_, rfl⟩; rw [← hl1] at HQ1 ⊢; have HL1 : Hid (l1 = (digQ M2).length) := hl1; clear hl1)
              go_roundw
              case rel => exact ⟨M2, i + 1, l1, a1, c1, rfl, by go_num, by omega, by rw [HL1.out]; exact HM2.out, HL1.out, HQ1.out, HE.out, HB1.out⟩
              case measure => simp [intOf]; omega
          · have hlti : ¬ (i : Int) < n := by omega
            have HRR : Hid (R = M) := by show _ = _; rw [← HI.out.2.2.1, show n - i = 0 by omega]; simp
            have HQ : Hid (QAt wr (.slice a l c) M) := HI.out.2.1
            clear HI
            go_wp2
            go_ret
            exact ⟨_, rfl, by rw [HRR.out]; exact HQ.out, HBL.out⟩
end Go.Proofs.YtinfnkhghmcelaaDoor
