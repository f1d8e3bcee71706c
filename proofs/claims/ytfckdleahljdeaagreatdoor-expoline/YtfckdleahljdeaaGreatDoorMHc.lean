/- Texts that belong together. -/
import Derived.Test.YtfckdleahljdeaaGreatDoorMEy4
import Derived.BigQuiet
/- The document's naturals: which is greater. -/
namespace Go.Proofs.YtfckdleahljdeaaGreatDoor.Nu
open Go.RowKit Go.Maps

theorem tmQ_dig {k : Nat} (hk : 1 ≤ k) : ∀ (j N c : Nat), N ≤ j → tmQ k (digQ N) c = digQ (N * k + c)
  | j, N, c, h => by
    by_cases h0 : N = 0
    · subst h0
      rw [digQ_zero, tmQ, Nat.zero_mul, Nat.zero_add]
    · cases j with
      | zero => omega
      | succ j =>
        have hNk : 0 < N * k := Nat.mul_pos (by omega) hk
        have e1 : N * k + c = 10000 * (N / 10000 * k) + (N % 10000 * k + c) := by
          conv => lhs; rw [← Nat.div_add_mod N 10000, Nat.add_mul, Nat.mul_assoc]
          omega
        rw [digQ_pos (show 0 < N by omega), tmQ, tmQ_dig hk j (N / 10000) _ (by omega), digQ_pos (show 0 < N * k + c by omega), e1]
        generalize N / 10000 * k = A
        generalize N % 10000 * k + c = D
        congr 1
        · omega
        · congr 1
          omega
theorem valQ_take {ds : List Nat} (h : ∀ d ∈ ds, d < 10000) : valQ ds < 10000 ^ ds.length := by
  induction ds with
  | nil => simp [valQ]
  | cons d t ih =>
    have h1 := h d (by simp)
    have h2 := ih (fun x hx => h x (by simp [hx]))
    rw [valQ, List.length_cons, Nat.pow_succ]
    omega
theorem valQ_append (a b : List Nat) : valQ (a ++ b) = valQ a + 10000 ^ a.length * valQ b := by
  induction a with
  | nil => simp [valQ]
  | cons d t ih =>
    rw [List.cons_append, valQ, valQ, ih, List.length_cons, Nat.pow_succ, Nat.mul_add, ← Nat.mul_assoc, Nat.mul_comm 10000 (10000 ^ t.length)]
    omega
/-- Of two rows that are alike above a place, the digits there decide. -/
theorem valQ_less {a b : List Nat} {i : Nat} (ha : i < a.length) (hb : i < b.length) (hda : ∀ d ∈ a, d < 10000) (he : a.drop (i + 1) = b.drop (i + 1)) (hlt : a[i] < b[i]) : valQ a < valQ b := by
  have e1 : a = a.take i ++ (a[i] :: a.drop (i + 1)) := by rw [List.getElem_cons_drop]; exact (List.take_append_drop i a).symm
  have e2 : b = b.take i ++ (b[i] :: b.drop (i + 1)) := by rw [List.getElem_cons_drop]; exact (List.take_append_drop i b).symm
  rw [e1, e2, valQ_append, valQ_append, valQ, valQ, he]
  have h1 := valQ_take (ds := a.take i) (fun d hd => hda d (List.mem_of_mem_take hd))
  have l1 : (a.take i).length = i := by simp; omega
  have l2 : (b.take i).length = i := by simp; omega
  rw [l1] at h1 ⊢
  rw [l2]
  have h2 : 10000 ^ i * (a[i] + 10000 * valQ (b.drop (i + 1)) + 1) ≤ 10000 ^ i * (b[i] + 10000 * valQ (b.drop (i + 1))) := Nat.mul_le_mul_left _ (by omega)
  rw [Nat.mul_add, Nat.mul_one] at h2
  omega
theorem digQ_last : ∀ (k n : Nat), n ≤ k → 0 < n → 10000 ^ ((digQ n).length - 1) ≤ n
  | k, n, h, h0 => by
    cases k with
    | zero => omega
    | succ k =>
      rw [digQ_pos h0, List.length_cons, Nat.add_sub_cancel]
      by_cases h1 : n / 10000 = 0
      · rw [h1, digQ_zero]
        simp
        omega
      · have h2 := digQ_last k (n / 10000) (by omega) (by omega)
        have h3 : (digQ (n / 10000)).length ≠ 0 := by
          rw [digQ_pos (by omega)]
          simp
        obtain ⟨L, hL⟩ : ∃ L, (digQ (n / 10000)).length = L + 1 := ⟨(digQ (n / 10000)).length - 1, by omega⟩
        rw [hL] at h2 ⊢
        rw [Nat.add_sub_cancel] at h2
        rw [Nat.pow_succ]
        omega
theorem digQ_short {n m : Nat} (h : (digQ n).length < (digQ m).length) : n < m := by
  have h1 := valQ_take (ds := digQ n) (digQ_lt n n (Nat.le_refl _))
  rw [valQ_dig n n (Nat.le_refl _)] at h1
  have hm : 0 < m := by
    rcases Nat.eq_zero_or_pos m with rfl | h0
    · rw [digQ_zero] at h; simp at h
    · exact h0
  have h2 := digQ_last m m (Nat.le_refl _) hm
  have h3 : 10000 ^ (digQ n).length ≤ 10000 ^ ((digQ m).length - 1) := Nat.pow_le_pow_right (by decide) (by omega)
  omega
theorem digQ_less {n m i : Nat} (ha : i < (digQ n).length) (hb : i < (digQ m).length) (he : (digQ n).drop (i + 1) = (digQ m).drop (i + 1)) (hlt : (digQ n)[i] < (digQ m)[i]) : n < m := by
  have h := valQ_less ha hb (digQ_lt n n (Nat.le_refl _)) he hlt
  rwa [valQ_dig n n (Nat.le_refl _), valQ_dig m m (Nat.le_refl _)] at h
theorem digQ_inj {n m : Nat} (h : digQ n = digQ m) : n = m := by
  have := congrArg valQ h
  rwa [valQ_dig n n (Nat.le_refl _), valQ_dig m m (Nat.le_refl _)] at this

/-- A slice that reads as the digits of a natural. -/
def QAt (w : World) (v : Value) (N : Nat) : Prop := DAt w v (digQ N)
theorem QAt.below {w w' : World} {v : Value} {N : Nat} (h : QAt w v N) (hb : Below w.heap.size w w') : QAt w' v N := DAt.below h hb
theorem QAt.nil (w : World) : QAt w (.slice none 0 0) 0 := by
  unfold QAt
  rw [digQ_zero]
  exact ⟨none, 0, rfl, ⟨Nat.zero_le _, Nat.zero_le _⟩, fun _ hk => absurd hk (Nat.not_lt_zero _)⟩
/-- A natural times a small number, and more. -/
theorem refTimes_nat (v : Value) (N k more : Nat) (w : World) (h : QAt w v N) (hk1 : 1 ≤ k) (hk : k ≤ 10000) (hm : more ≤ 4611686018427387904) (hl : (digQ N).length ≤ 50000) :
    Calls Tryz.prog 74 #[v, .int .i64 k, .int .i64 more] w fun e w' => ∃ v', e = .returned v' ∧ QAt w' v' (N * k + more) ∧ (∃ a c, v' = .slice a (digQ (N * k + more)).length c) ∧ DRow w' w.heap.size v' (digQ (N * k + more)) ∧ Below w.heap.size w w' := by
  obtain ⟨a, c, rfl, -⟩ := id h
  have h1 := refTimes_any (digQ N) a c k more w h (digQ_lt N N (Nat.le_refl _)) hk hm hl
  rw [tmQ_dig hk1 N N more (Nat.le_refl _)] at h1
  refine h1.mono ?_
  rintro e w' ⟨a', c', rfl, hr, hb⟩
  exact ⟨_, rfl, hr.at, ⟨_, _, rfl⟩, hr, hb⟩
set_option maxRecDepth 100000 in
set_option maxHeartbeats 400000 in
theorem refOf_any (n : Nat) (w : World) (hm : n ≤ 4611686018427387904) :
    Calls Tryz.prog 129 #[.int .i64 n] w fun e w' => ∃ v', e = .returned v' ∧ QAt w' v' n ∧ Below w.heap.size w w' := by
  have h := refTimes_nat (.slice none 0 0) 0 1 n w (QAt.nil w) (by decide) (by decide) hm (by rw [digQ_zero]; decide)
  rw [show 0 * 1 + n = n by omega] at h
  go_enter Tryz.func129, Tryz.ntmps129
  go_wp2_with (go_at_call 74; refine h.mono ?_; clear h; rintro e w1 ⟨v1, rfl, hq1, ⟨a1, c1, rfl⟩, hr1, hb1⟩; have HQ1 : Hid (QAt w1 _ n) := hq1; have HB1 : Hid (Below w.heap.size w w1) := hb1; clear hq1 hr1 hb1)
  go_ret
  exact ⟨_, rfl, HQ1.out, HB1.out⟩

set_option maxRecDepth 100000 in
set_option maxHeartbeats 800000 in
theorem refCmp_any (v u : Value) (N M : Nat) (w : World) (h1 : QAt w v N) (h2 : QAt w u M) (hl : (digQ N).length ≤ 100000) (hl2 : (digQ M).length ≤ 100000) :
    Calls Tryz.prog 131 #[v, u] w fun e w' => e = .returned (.int .i64 (cmpN N M)) ∧ Below w.heap.size w w' := by
  obtain ⟨a1, c1, rfl, -⟩ := id h1
  obtain ⟨a2, c2, rfl, -⟩ := id h2
  have HA1 : Hid (DAt w (.slice a1 (digQ N).length c1) (digQ N)) := h1
  have HA2 : Hid (DAt w (.slice a2 (digQ M).length c2) (digQ M)) := h2
  clear h1 h2
  obtain ⟨L1, hL1⟩ : ∃ L, L = (digQ N).length := ⟨_, rfl⟩
  obtain ⟨L2, hL2⟩ : ∃ L, L = (digQ M).length := ⟨_, rfl⟩
  rw [← hL1] at HA1 hl ⊢
  rw [← hL2] at HA2 hl2 ⊢
  have HL1 : Hid (L1 = (digQ N).length) := hL1
  have HL2 : Hid (L2 = (digQ M).length) := hL2
  clear hL1 hL2
  by_cases hlt : L1 < L2
  · have HR : Hid (cmpN N M = -1) := by
      show _ = _
      unfold cmpN
      rw [if_pos (digQ_short (by rw [← HL1.out, ← HL2.out]; exact hlt))]
    have hne : ((L1 : Int) == L2) = false := by rw [beq_eq_false_iff_ne]; omega
    have hlti : (L1 : Int) < L2 := by omega
    generalize cmpN N M = R at *
    go_enter Tryz.func131, Tryz.ntmps131
    go_wp2
    go_ret
    exact ⟨by rw [HR.out]; rfl, Below.refl _ _⟩
  · by_cases hgt : L2 < L1
    · have HR : Hid (cmpN N M = 1) := by
        show _ = _
        have h9 : M < N := digQ_short (by rw [← HL1.out, ← HL2.out]; exact hgt)
        unfold cmpN
        rw [if_neg (by omega), if_neg (by omega)]
      have hne : ((L1 : Int) == L2) = false := by rw [beq_eq_false_iff_ne]; omega
      have hlti : ¬ (L1 : Int) < L2 := by omega
      generalize cmpN N M = R at *
      go_enter Tryz.func131, Tryz.ntmps131
      go_wp2
      go_ret
      exact ⟨by rw [HR.out]; rfl, Below.refl _ _⟩
    · obtain rfl : L1 = L2 := by omega
      obtain ⟨R, hR⟩ : ∃ R, R = cmpN N M := ⟨_, rfl⟩
      rw [← hR]
      have HR : Hid (R = cmpN N M) := hR
      clear hR hlt hgt
      go_enter Tryz.func131, Tryz.ntmps131
      go_wp2
      go_loopw [5] (fun iv wr => ∃ i : Nat, i ≤ L1 ∧ iv = .int .i64 ((i : Int) - 1) ∧ Hid (Below w.heap.size w wr) ∧ Hid ((digQ N).drop i = (digQ M).drop i)) (fun iv _ => (intOf iv + 1).toNat)
      case atStart => exact ⟨L1, Nat.le_refl _, rfl, Below.refl _ _, by show _ = _; rw [List.drop_of_length_le (Nat.le_of_eq HL1.out.symm), List.drop_of_length_le (Nat.le_of_eq HL2.out.symm)]⟩
      case round =>
        obtain ⟨i, hi, rfl, HBL, HE⟩ := hrel
        cases i with
        | zero =>
          have hnm : N = M := digQ_inj (by have := HE.out; rwa [List.drop_zero, List.drop_zero] at this)
          have HRR : Hid (R = 0) := by show _ = _; rw [HR.out, hnm]; unfold cmpN; simp
          clear hnm
          go_wp2
          go_ret
          exact ⟨by rw [HRR.out]; rfl, HBL.out⟩
        | succ i =>
          have g1 : i < (digQ N).length := by rw [← HL1.out]; omega
          have g2 : i < (digQ M).length := by rw [← HL2.out]; omega
          obtain ⟨b1, o1, rfl, k1⟩ := HA1.out.one i g1 HBL.out
          obtain ⟨b2, o2, rfl, k2⟩ := HA2.out.one i g2 HBL.out
          have hii : ((i : Int) + 1 - 1) = (i : Int) := by omega
          have hcs : (((i + 1 : Nat)) : Int) - 1 = (i : Int) := by omega
          rw [hcs]
          have hlt3 := fun he hx => digQ_less (n := N) (m := M) g1 g2 he hx
          have hgt3 := fun he hx => digQ_less (n := M) (m := N) g2 g1 he hx
          have e1 : (digQ N).drop i = (digQ N)[i] :: (digQ N).drop (i + 1) := List.drop_eq_getElem_cons g1
          have e2 : (digQ M).drop i = (digQ M)[i] :: (digQ M).drop (i + 1) := List.drop_eq_getElem_cons g2
          have HEE : Hid ((digQ N)[i] = (digQ M)[i] → (digQ N).drop i = (digQ M).drop i) := fun h => by rw [e1, e2, h, HE.out]
          have HLT : Hid ((digQ N)[i] < (digQ M)[i] → R = -1) := fun h => by
            have h9 := hlt3 HE.out h
            rw [HR.out]
            unfold cmpN
            rw [if_pos h9]
          have HGT : Hid ((digQ M)[i] < (digQ N)[i] → R = 1) := fun h => by
            have h9 := hgt3 HE.out.symm h
            rw [HR.out]
            unfold cmpN
            rw [if_neg (by omega), if_neg (by omega)]
          clear e1 e2 hlt3 hgt3 hcs
          generalize (digQ N)[i] = d1 at *
          generalize (digQ M)[i] = d2 at *
          have hil : (i : Int) < L1 := by omega
          have hi0 : (0 : Int) ≤ i := by omega
          by_cases hd : d1 = d2
          · subst hd
            have HE2 : Hid ((digQ N).drop i = (digQ M).drop i) := HEE.out rfl
            go_wp2
            go_quiet (fail)
            go_wp2
            go_roundw
            case rel => exact ⟨i, by omega, rfl, below_drewN HBL.out _, HE2.out⟩
            case measure => simp [intOf]
          · have hne : ((d1 : Int) == d2) = false := by rw [beq_eq_false_iff_ne]; omega
            by_cases hx : d1 < d2
            · have HRR : Hid (R = -1) := HLT.out hx
              have hxi : (d1 : Int) < d2 := by omega
              go_wp2
              go_quiet (fail)
              go_wp2
              go_quiet (fail)
              go_wp2
              go_ret
              exact ⟨by rw [HRR.out]; rfl, below_drewN (below_drewN HBL.out _) _⟩
            · have HRR : Hid (R = 1) := HGT.out (by omega)
              have hxi : ¬ (d1 : Int) < d2 := by omega
              go_wp2
              go_quiet (fail)
              go_wp2
              go_quiet (fail)
              go_wp2
              go_ret
              exact ⟨by rw [HRR.out]; rfl, below_drewN (below_drewN HBL.out _) _⟩
end Go.Proofs.YtfckdleahljdeaaGreatDoor.Nu

/- The document's naturals: times 2 to some power. -/
namespace Go.Proofs.YtfckdleahljdeaaGreatDoor.Nu
open Go.RowKit Go.Maps

theorem digQ_mono {n m : Nat} (h : n ≤ m) : (digQ n).length ≤ (digQ m).length := by
  rcases Nat.lt_or_ge (digQ m).length (digQ n).length with h1 | h1
  · have := digQ_short h1
    omega
  · exact h1
theorem digQ_nil {n : Nat} : (digQ n).length = 0 ↔ n = 0 := by
  constructor
  · intro h
    rcases Nat.eq_zero_or_pos n with h0 | h0
    · exact h0
    · rw [digQ_pos h0] at h
      simp at h
  · rintro rfl
    rw [digQ_zero]
    rfl
theorem QAt.form {w : World} {v : Value} {N : Nat} (h : QAt w v N) : ∃ a c, v = .slice a (digQ N).length c := by
  obtain ⟨a, c, e, _⟩ := h
  exact ⟨a, c, e⟩

set_option maxRecDepth 100000 in
set_option maxHeartbeats 600000 in
theorem refPow2_any (v : Value) (N n : Nat) (w : World) (h : QAt w v N) (hn : n ≤ 100000) (hl : (digQ (N * 2 ^ n)).length ≤ 40000) :
    Calls Tryz.prog 130 #[v, .int .i64 2, .int .i64 n] w fun e w' => ∃ v', e = .returned v' ∧ QAt w' v' (N * 2 ^ n) ∧ Below w.heap.size w w' := by
  obtain ⟨R, hR⟩ : ∃ R, R = N * 2 ^ n := ⟨_, rfl⟩
  rw [← hR] at hl ⊢
  have HLR : Hid ((digQ R).length ≤ 40000) := hl
  have HR : Hid (R = N * 2 ^ n) := hR
  have HQ0 : Hid (QAt w v N) := h
  obtain ⟨a0, c0, rfl⟩ := h.form
  clear hl hR h
  go_enter Tryz.func130, Tryz.ntmps130
  go_wp2
  go_loopw [0, 2] (fun av nv wr => ∃ (M m l : Nat) (a : Option Addr) (c : Nat), av = .slice a l c ∧ nv = .int .i64 m ∧ m ≤ 100000 ∧ Hid (l = (digQ M).length ∧ QAt wr (.slice a l c) M ∧ M * 2 ^ m = R ∧ Below w.heap.size w wr)) (fun _ nv _ => (intOf nv).toNat)
  case atStart => exact ⟨N, n, _, a0, c0, rfl, rfl, hn, rfl, HQ0.out, HR.out.symm, Below.refl _ _⟩
  case round =>
    clear HQ0
    obtain ⟨M, m, l, a, c, rfl, rfl, hm, HI⟩ := hrel
    have HBL : Hid (Below w.heap.size w wr) := HI.out.2.2.2
    by_cases h13 : 13 ≤ m
    · have h13i : (13 : Int) ≤ m := by omega
      have hMR : M ≤ R := by rw [← HI.out.2.2.1]; exact Nat.le_mul_of_pos_right _ (Nat.pow_pos (by decide))
      have ht := refTimes_nat (.slice a l c) M 8192 0 wr HI.out.2.1 (by decide) (by decide) (by decide) (Nat.le_trans (digQ_mono hMR) (Nat.le_trans HLR.out (by decide)))
      have ht : Calls Tryz.prog 74 #[.slice a l c, .int .i64 8192, .int .i64 0] wr fun e w' => ∃ v', e = .returned v' ∧ QAt w' v' (M * 8192 + 0) ∧ (∃ a c, v' = .slice a (digQ (M * 8192 + 0)).length c) ∧ DRow w' wr.heap.size v' (digQ (M * 8192 + 0)) ∧ Below wr.heap.size wr w' := ht
      have HE : Hid ((M * 8192 + 0) * 2 ^ (m - 13) = R) := by
        show _ = _
        rw [← HI.out.2.2.1, Nat.add_zero, Nat.mul_assoc]
        congr 1
        rw [show (8192 : Nat) = 2 ^ 13 from rfl, ← Nat.pow_add]
        congr 1
        omega
      clear HI hMR
      generalize M * 8192 + 0 = M2 at *
      go_wp2_with (go_at_call 74; refine ht.mono ?_; clear ht; rintro e w1 ⟨v1, rfl, hq1, ⟨a1, c1, rfl⟩, -, hb1⟩; have HQ1 : Hid (QAt w1 (.slice a1 (digQ M2).length c1) M2) := hq1; have HB1 : Hid (Below w.heap.size w w1) := HBL.out.trans (hb1.mono HBL.out.size); clear hq1 hb1; obtain ⟨l1, hl1⟩ : ∃ l1, l1 = (digQ M2).length := ⟨_, rfl⟩; rw [← hl1] at HQ1 ⊢; have HL1 : Hid (l1 = (digQ M2).length) := hl1; clear hl1)
      go_roundw
      case rel => exact ⟨M2, m - 13, l1, a1, c1, rfl, by congr 1; omega, by omega, HL1.out, HQ1.out, HE.out, HB1.out⟩
      case measure => simp [intOf]; omega
    · have h13i : ¬ (13 : Int) ≤ m := by omega
      go_wp2
      go_loopw [0, 7] (fun av iv wu => ∃ (M i l : Nat) (a : Option Addr) (c : Nat), av = .slice a l c ∧ iv = .int .i64 i ∧ i ≤ m ∧ l ≤ 40000 ∧ Hid (l = (digQ M).length ∧ QAt wu (.slice a l c) M ∧ M * 2 ^ (m - i) = R ∧ Below w.heap.size w wu)) (fun _ iv _ => m - (intOf iv).toNat)
      case atStart => exact ⟨M, 0, l, a, c, rfl, rfl, Nat.zero_le _, by rw [HI.out.1]; exact Nat.le_trans (digQ_mono (by rw [← HI.out.2.2.1]; exact Nat.le_mul_of_pos_right _ (Nat.pow_pos (by decide)))) HLR.out, HI.out.1, HI.out.2.1, HI.out.2.2.1, HI.out.2.2.2⟩
      case round =>
        clear HI HBL
        obtain ⟨M, i, l, a, c, rfl, rfl, hi, hl4, HI⟩ := hrel
        have HBL : Hid (Below w.heap.size w wr) := HI.out.2.2.2
        by_cases hlt : i < m
        · have hlti : (i : Int) < m := by omega
          by_cases h0 : l = 0
          · have hM : M = 0 := digQ_nil.1 (by rw [← HI.out.1]; exact h0)
            have HRR : Hid (R = M) := by show _ = _; rw [← HI.out.2.2.1, hM]; simp
            have HQ : Hid (QAt wr (.slice a l c) M) := HI.out.2.1
            have h0i : ¬ (0 : Int) < l := by omega
            clear HI hM h0
            go_wp2
            go_ret
            exact ⟨_, rfl, by rw [HRR.out]; exact HQ.out, HBL.out⟩
          · have h0i : (0 : Int) < l := by omega
            have hMR : M ≤ R := by rw [← HI.out.2.2.1]; exact Nat.le_mul_of_pos_right _ (Nat.pow_pos (by decide))
            have ht := refTimes_nat (.slice a l c) M 2 0 wr HI.out.2.1 (by decide) (by decide) (by decide) (Nat.le_trans (digQ_mono hMR) (Nat.le_trans HLR.out (by decide)))
            have ht : Calls Tryz.prog 74 #[.slice a l c, .int .i64 2, .int .i64 0] wr fun e w' => ∃ v', e = .returned v' ∧ QAt w' v' (M * 2 + 0) ∧ (∃ a c, v' = .slice a (digQ (M * 2 + 0)).length c) ∧ DRow w' wr.heap.size v' (digQ (M * 2 + 0)) ∧ Below wr.heap.size wr w' := ht
            have HE : Hid ((M * 2 + 0) * 2 ^ (m - (i + 1)) = R) := by
              show _ = _
              rw [← HI.out.2.2.1, Nat.add_zero, Nat.mul_assoc]
              congr 1
              rw [show m - i = (m - (i + 1)) + 1 by omega, Nat.pow_succ, Nat.mul_comm]
            have HM2 : Hid ((digQ (M * 2 + 0)).length ≤ 40000) := Nat.le_trans (digQ_mono (by rw [← HE.out]; exact Nat.le_mul_of_pos_right _ (Nat.pow_pos (by decide)))) HLR.out
            clear HI hMR
            generalize M * 2 + 0 = M2 at *
            go_wp2_with (go_at_call 74; refine ht.mono ?_; clear ht; rintro e w1 ⟨v1, rfl, hq1, ⟨a1, c1, rfl⟩, -, hb1⟩; have HQ1 : Hid (QAt w1 (.slice a1 (digQ M2).length c1) M2) := hq1; have HB1 : Hid (Below w.heap.size w w1) := HBL.out.trans (hb1.mono HBL.out.size); clear hq1 hb1; obtain ⟨l1, hl1⟩ : ∃ l1, l1 = (digQ M2).length := ⟨_, rfl⟩; rw [← hl1] at HQ1 ⊢; have HL1 : Hid (l1 = (digQ M2).length) := hl1; clear hl1)
            go_roundw
            case rel => exact ⟨M2, i + 1, l1, a1, c1, rfl, by go_num, by omega, by rw [HL1.out]; exact HM2.out, HL1.out, HQ1.out, HE.out, HB1.out⟩
            case measure => simp [intOf]; omega
        · have hlti : ¬ (i : Int) < m := by omega
          have HRR : Hid (R = M) := by show _ = _; rw [← HI.out.2.2.1, show m - i = 0 by omega]; simp
          have HQ : Hid (QAt wr (.slice a l c) M) := HI.out.2.1
          clear HI
          go_wp2
          go_ret
          exact ⟨_, rfl, by rw [HRR.out]; exact HQ.out, HBL.out⟩
end Go.Proofs.YtfckdleahljdeaaGreatDoor.Nu

/- The document's naturals: times 10 to some power. -/
namespace Go.Proofs.YtfckdleahljdeaaGreatDoor.Nu
open Go.RowKit Go.Maps

theorem made_nums (c : Nat) : madeCells (Value.int .i64 0).cells c = (i64s (List.replicate c 0)).toArray := by
  apply Array.ext
  · simp [size_madeCells, i64s]
  · intro i h1 h2
    have e : i % 1 = 0 := Nat.mod_one i
    simp [madeCells, i64s, Value.cells, e]
theorem digQ_shift {M : Nat} (h : 0 < M) : ∀ q, digQ (M * 10000 ^ q) = List.replicate q 0 ++ digQ M
  | 0 => by simp
  | q + 1 => by
    have hp : 0 < M * 10000 ^ q := Nat.mul_pos h (Nat.pow_pos (by decide))
    rw [show M * 10000 ^ (q + 1) = 10000 * (M * 10000 ^ q) by rw [Nat.pow_succ, ← Nat.mul_assoc, Nat.mul_comm], digQ_pos (by omega), Nat.mul_mod_right, Nat.mul_div_cancel_left _ (by decide), digQ_shift h q]
    rfl
theorem i64s_one (ds : List Nat) : ∀ u ∈ i64s ds, u.oneCell' = true := fun u hu => by
  simp only [i64s, List.mem_map] at hu
  obtain ⟨x, _, rfl⟩ := hu
  rfl
theorem i64s_length (ds : List Nat) : (i64s ds).length = ds.length := by simp [i64s]
/-- append of a natural's digits, of which there are some. -/
theorem wpList_append_nat (w : World) {ops : Array Oper} {rest : List Oper} {o : Oper} {a : Act} {Q : Exit → Act → World → Prop} (hgd : o.guard = none) (s x : Operand)
    (ho : o.op = .call { callee := .builtin .append, args := #[s, x], argTypes := #[105, 105] }) (base : Nat) (ao : Option Addr) (n co : Nat) (es : List Nat) (hs : a.eval s = .slice ao n co) (hrow : w.ownsRow base 3 1 (.slice ao n co) n (i64s es))
    (ds : List Nat) (m : Nat) (ad : Option Addr) (cx : Nat) (hm : m = ds.length) (hx : a.eval x = .slice ad m cx) (hd : DAt w (.slice ad m cx) ds) (h0 : 0 < m) (hl : n + m ≤ 100000) (hbase : base ≤ w.heap.size)
    (h : ∀ a' c' w', w'.ownsRow base 3 1 (.slice a' (n + m) c') (n + m) (i64s (es ++ ds)) → w.grownBy w' (Value.slice ao n co).ownBlock → wpList Tryz.prog ops Q rest (a.put o.dst (.slice a' (n + m) c')) w') : wpList Tryz.prog ops Q (o :: rest) a w := by
  obtain ⟨i0, hi0, hz0, hz1, hz2⟩ := info_parts infoI64
  subst hm
  obtain ⟨b, oo, rfl, -⟩ := hd.one 0 h0 (Below.refl _ _)
  refine wpList_append_own_at w hgd s x 105 ho base 3 i0 _ 1 8 Tryz.underlying105 hi0 hz0 hz1 hz2 rfl (by decide) (.slice ao n co) n (i64s es) hs hrow ⟨b, oo, none⟩ ds.length cx (i64s ds) hx (by rw [i64s_length]; omega) (fun j u hj => ?_) (i64s_one ds) (by unfold maxLen; omega) (by omega) hbase ?_
  · have hjl : j < ds.length := by
      rcases Nat.lt_or_ge j ds.length with h1 | h1
      · exact h1
      · rw [List.getElem?_eq_none (by rw [i64s_length]; exact h1)] at hj
        cases hj
    obtain ⟨b', o', e, hc⟩ := hd.one j hjl (Below.refl _ _)
    cases e
    rw [Addr.add_lit, hc]
    have e2 : (i64s ds)[j]? = some (.int .i64 (ds[j] : Nat)) := by simp [i64s, hjl]
    rw [e2] at hj
    exact hj
  · intro v1 w1 hr1 hg1 hnil1 hloc1
    obtain ⟨a1, c1, rfl⟩ := slice_of_row hr1
    refine h a1 c1 w1 ?_ hg1
    rw [i64s_append]
    exact hr1

set_option maxRecDepth 100000 in
set_option maxHeartbeats 1000000 in
theorem refPow10_any (v : Value) (N n : Nat) (w : World) (h : QAt w v N) (hn : n ≤ 100000) (hl : (digQ (N * 10 ^ n)).length ≤ 40000) :
    Calls Tryz.prog 130 #[v, .int .i64 10, .int .i64 n] w fun e w' => ∃ v', e = .returned v' ∧ QAt w' v' (N * 10 ^ n) ∧ Below w.heap.size w w' := by
  obtain ⟨R, hR⟩ : ∃ R, R = N * 10 ^ n := ⟨_, rfl⟩
  rw [← hR] at hl ⊢
  have HLR : Hid ((digQ R).length ≤ 40000) := hl
  obtain ⟨a, c, rfl⟩ := h.form
  obtain ⟨l, hl0⟩ : ∃ l, l = (digQ N).length := ⟨_, rfl⟩
  rw [← hl0] at h ⊢
  have HI : Hid (l = (digQ N).length ∧ QAt w (.slice a l c) N ∧ N * 10 ^ n = R ∧ Below w.heap.size w w) := ⟨hl0, h, hR.symm, Below.refl _ _⟩
  have hl5 : l ≤ 40000 := by
    rw [hl0]
    exact Nat.le_trans (digQ_mono (by rw [hR]; exact Nat.le_mul_of_pos_right _ (Nat.pow_pos (by decide)))) hl
  clear hl hR hl0 h
  by_cases hbig : 4 ≤ n ∧ 0 < l
  · obtain ⟨h4, hl0⟩ := hbig
    have h4i : (4 : Int) ≤ n := by omega
    have hl0i : (0 : Int) < l := by omega
    obtain ⟨q, hq⟩ : ∃ q, q = n / 4 := ⟨_, rfl⟩
    obtain ⟨m, hm⟩ : ∃ m, m = n % 4 := ⟨_, rfl⟩
    have hqi : (n : Int) / 4 = (q : Int) := by omega
    have hqt : (n : Int).tdiv 4 = (q : Int) := by rw [hq]; exact (Int.ofNat_tdiv n 4).symm
    have hmi : (n : Int) % 4 = (m : Int) := by omega
    have hmt : (n : Int).tmod 4 = (m : Int) := by rw [hm]; exact (Int.ofNat_tmod n 4).symm
    have hN0 : 0 < N := by
      rcases Nat.eq_zero_or_pos N with h0 | h0
      · have := HI.out.1
        rw [h0, digQ_zero] at this
        simp at this
        omega
      · exact h0
    have HE : Hid (N * 10000 ^ q * 10 ^ m = R) := by
      show _ = _
      rw [← HI.out.2.2.1, Nat.mul_assoc]
      congr 1
      rw [show (10000 : Nat) = 10 ^ 4 from rfl, ← Nat.pow_mul, ← Nat.pow_add]
      congr 1
      omega
    have HSH : Hid (digQ (N * 10000 ^ q) = List.replicate q 0 ++ digQ N) := digQ_shift hN0 q
    have hb5 : q + l ≤ 40000 := by
      have h8 := Nat.le_trans (digQ_mono (show N * 10000 ^ q ≤ R by rw [← HE.out]; exact Nat.le_mul_of_pos_right _ (Nat.pow_pos (by decide)))) HLR.out
      rw [HSH.out, List.length_append, List.length_replicate, ← HI.out.1] at h8
      exact h8
    obtain ⟨i0, hi0, hz0, hz1, hz2⟩ := info_parts infoI64
    obtain ⟨W1, hmk, hown1, hgrow1⟩ := run_make_full (P := Tryz.prog) w w.heap.size 105 3 i0 _ 1 Tryz.underlying105 hi0 hz0 hz1 .i64 .i64 q (by rw [hz2]; omega) (by unfold maxLen; omega) (Nat.le_refl _)
    rw [Nat.mul_one, made_nums] at hown1
    have hb1 : Below w.heap.size w W1 := (Below.refl _ _).grown hgrow1 (Nat.le_refl _) (fun j hj => by cases hj)
    have HROW : Hid (W1.ownsRow w.heap.size 3 1 (.slice (some ⟨w.heap.size, 0, none⟩) q q) q (i64s (List.replicate q 0))) := hown1
    have HB1 : Hid (Below w.heap.size w W1) := hb1
    have HD1 : Hid (DAt W1 (.slice a l c) (digQ N)) := HI.out.2.1.below hb1
    have HL : Hid (l = (digQ N).length) := HI.out.1
    have hm4 : m ≤ 100000 := by omega
    clear hown1 hgrow1 hb1 hz0 hz1 hz2 hi0 HI hq hm h4 hN0
    go_enter Tryz.func130, Tryz.ntmps130
    go_wp2
    go_loopw [0, 2] (fun av nv wr => av = .slice a l c ∧ nv = .int .i64 n ∧ wr = w) (fun _ _ _ => 0)
    case atStart => exact ⟨rfl, rfl, rfl⟩
    case round =>
      obtain ⟨rfl, rfl, hw⟩ := hrel
      have hw := hw.symm
      subst hw
      go_wp2_with (at_builtin; refine wpList_append_nat _ rfl _ _ rfl w.heap.size (some ⟨w.heap.size, 0, none⟩) q q (List.replicate q 0) rfl HROW.out (digQ N) l a c HL.out rfl HD1.out hl0 (by omega) HB1.out.size ?_; intro a3 c3 w3 hr3 hg3)
      have HI : Hid (q + l = (digQ (N * 10000 ^ q)).length ∧ QAt w3 (.slice a3 (q + l) c3) (N * 10000 ^ q) ∧ N * 10000 ^ q * 10 ^ m = R ∧ Below w.heap.size w w3) := by
        have e1 : (digQ (N * 10000 ^ q)).length = q + l := by rw [HSH.out, List.length_append, List.length_replicate, ← HL.out]
        refine ⟨e1.symm, ?_, HE.out, HB1.out.grown hg3 HB1.out.size (fun j hj => (HROW.out.lt j hj).1)⟩
        have h9 : DRow w3 w.heap.size (.slice a3 (q + l) c3) (digQ (N * 10000 ^ q)) := by
          unfold DRow
          rw [e1, HSH.out]
          exact hr3
        exact h9.at
      have HBL : Hid (Below w.heap.size w w3) := HI.out.2.2.2
      clear hr3 hg3 HROW HD1 HB1 HE HSH HL hl5 hmk
      generalize N * 10000 ^ q = M at *
      generalize hll : q + l = l3 at *
      clear hll
      go_loopw [0, 7] (fun av iv wu => ∃ (M i l : Nat) (a : Option Addr) (c : Nat), av = .slice a l c ∧ iv = .int .i64 i ∧ i ≤ m ∧ l ≤ 40000 ∧ Hid (l = (digQ M).length ∧ QAt wu (.slice a l c) M ∧ M * 10 ^ (m - i) = R ∧ Below w.heap.size w wu)) (fun _ iv _ => m - (intOf iv).toNat)
      case atStart => exact ⟨M, 0, l3, a3, c3, rfl, rfl, Nat.zero_le _, by rw [HI.out.1]; exact Nat.le_trans (digQ_mono (by rw [← HI.out.2.2.1]; exact Nat.le_mul_of_pos_right _ (Nat.pow_pos (by decide)))) HLR.out, HI.out.1, HI.out.2.1, HI.out.2.2.1, HI.out.2.2.2⟩
      case round =>
        clear HI HBL
        obtain ⟨M, i, l, a, c, rfl, rfl, hi, hl4, HI⟩ := hrel
        have HBL : Hid (Below w.heap.size w wr) := HI.out.2.2.2
        by_cases hlt : i < m
        · have hlti : (i : Int) < m := by omega
          by_cases h0 : l = 0
          · have hM : M = 0 := digQ_nil.1 (by rw [← HI.out.1]; exact h0)
            have HRR : Hid (R = M) := by show _ = _; rw [← HI.out.2.2.1, hM]; simp
            have HQ : Hid (QAt wr (.slice a l c) M) := HI.out.2.1
            have h0i : ¬ (0 : Int) < l := by omega
            clear HI hM h0
            go_wp2
            go_ret
            exact ⟨_, rfl, by rw [HRR.out]; exact HQ.out, HBL.out⟩
          · have h0i : (0 : Int) < l := by omega
            have hMR : M ≤ R := by rw [← HI.out.2.2.1]; exact Nat.le_mul_of_pos_right _ (Nat.pow_pos (by decide))
            have ht := refTimes_nat (.slice a l c) M 10 0 wr HI.out.2.1 (by decide) (by decide) (by decide) (Nat.le_trans (digQ_mono hMR) (Nat.le_trans HLR.out (by decide)))
            have ht : Calls Tryz.prog 74 #[.slice a l c, .int .i64 10, .int .i64 0] wr fun e w' => ∃ v', e = .returned v' ∧ QAt w' v' (M * 10 + 0) ∧ (∃ a c, v' = .slice a (digQ (M * 10 + 0)).length c) ∧ DRow w' wr.heap.size v' (digQ (M * 10 + 0)) ∧ Below wr.heap.size wr w' := ht
            have HE : Hid ((M * 10 + 0) * 10 ^ (m - (i + 1)) = R) := by
              show _ = _
              rw [← HI.out.2.2.1, Nat.add_zero, Nat.mul_assoc]
              congr 1
              rw [show m - i = (m - (i + 1)) + 1 by omega, Nat.pow_succ, Nat.mul_comm]
            have HM2 : Hid ((digQ (M * 10 + 0)).length ≤ 40000) := Nat.le_trans (digQ_mono (by rw [← HE.out]; exact Nat.le_mul_of_pos_right _ (Nat.pow_pos (by decide)))) HLR.out
            clear HI hMR
            generalize M * 10 + 0 = M2 at *
            go_wp2_with (go_at_call 74; refine ht.mono ?_; clear ht; rintro e w1 ⟨v1, rfl, hq1, ⟨a1, c1, rfl⟩, -, hb1⟩; have HQ1 : Hid (QAt w1 (.slice a1 (digQ M2).length c1) M2) := hq1; have HB1 : Hid (Below w.heap.size w w1) := HBL.out.trans (hb1.mono HBL.out.size); clear hq1 hb1; obtain ⟨l1, hl1⟩ : ∃ l1, l1 = (digQ M2).length := ⟨_, rfl⟩; rw [← hl1] at HQ1 ⊢; have HL1 : Hid (l1 = (digQ M2).length) := hl1; clear hl1)
            go_roundw
            case rel => exact ⟨M2, i + 1, l1, a1, c1, rfl, by go_num, by omega, by rw [HL1.out]; exact HM2.out, HL1.out, HQ1.out, HE.out, HB1.out⟩
            case measure => simp [intOf]; omega
        · have hlti : ¬ (i : Int) < m := by omega
          have HRR : Hid (R = M) := by show _ = _; rw [← HI.out.2.2.1, show m - i = 0 by omega]; simp
          have HQ : Hid (QAt wr (.slice a l c) M) := HI.out.2.1
          clear HI
          go_wp2
          go_ret
          exact ⟨_, rfl, by rw [HRR.out]; exact HQ.out, HBL.out⟩
  · have HBL : Hid (Below w.heap.size w w) := HI.out.2.2.2
    by_cases h4 : 4 ≤ n
    · have h4i : (4 : Int) ≤ n := by omega
      have hl0i : ¬ (0 : Int) < l := by omega
      clear hbig h4
      go_enter Tryz.func130, Tryz.ntmps130
      go_wp2
      go_loopw [0, 2] (fun av nv wr => av = .slice a l c ∧ nv = .int .i64 n ∧ wr = w) (fun _ _ _ => 0)
      case atStart => exact ⟨rfl, rfl, rfl⟩
      case round =>
        obtain ⟨rfl, rfl, hw⟩ := hrel
        have hw := hw.symm
        subst hw
        go_wp2
        go_loopw [0, 7] (fun av iv wu => ∃ (M i l : Nat) (a : Option Addr) (c : Nat), av = .slice a l c ∧ iv = .int .i64 i ∧ i ≤ n ∧ l ≤ 40000 ∧ Hid (l = (digQ M).length ∧ QAt wu (.slice a l c) M ∧ M * 10 ^ (n - i) = R ∧ Below w.heap.size w wu)) (fun _ iv _ => n - (intOf iv).toNat)
        case atStart => exact ⟨N, 0, l, a, c, rfl, rfl, Nat.zero_le _, by rw [HI.out.1]; exact Nat.le_trans (digQ_mono (by rw [← HI.out.2.2.1]; exact Nat.le_mul_of_pos_right _ (Nat.pow_pos (by decide)))) HLR.out, HI.out.1, HI.out.2.1, HI.out.2.2.1, HI.out.2.2.2⟩
        case round =>
          clear HI HBL
          obtain ⟨M, i, l, a, c, rfl, rfl, hi, hl4, HI⟩ := hrel
          have HBL : Hid (Below w.heap.size w wr) := HI.out.2.2.2
          by_cases hlt : i < n
          · have hlti : (i : Int) < n := by omega
            by_cases h0 : l = 0
            · have hM : M = 0 := digQ_nil.1 (by rw [← HI.out.1]; exact h0)
              have HRR : Hid (R = M) := by show _ = _; rw [← HI.out.2.2.1, hM]; simp
              have HQ : Hid (QAt wr (.slice a l c) M) := HI.out.2.1
              have h0i : ¬ (0 : Int) < l := by omega
              clear HI hM h0
              go_wp2
              go_ret
              exact ⟨_, rfl, by rw [HRR.out]; exact HQ.out, HBL.out⟩
            · have h0i : (0 : Int) < l := by omega
              have hMR : M ≤ R := by rw [← HI.out.2.2.1]; exact Nat.le_mul_of_pos_right _ (Nat.pow_pos (by decide))
              have ht := refTimes_nat (.slice a l c) M 10 0 wr HI.out.2.1 (by decide) (by decide) (by decide) (Nat.le_trans (digQ_mono hMR) (Nat.le_trans HLR.out (by decide)))
              have ht : Calls Tryz.prog 74 #[.slice a l c, .int .i64 10, .int .i64 0] wr fun e w' => ∃ v', e = .returned v' ∧ QAt w' v' (M * 10 + 0) ∧ (∃ a c, v' = .slice a (digQ (M * 10 + 0)).length c) ∧ DRow w' wr.heap.size v' (digQ (M * 10 + 0)) ∧ Below wr.heap.size wr w' := ht
              have HE : Hid ((M * 10 + 0) * 10 ^ (n - (i + 1)) = R) := by
                show _ = _
                rw [← HI.out.2.2.1, Nat.add_zero, Nat.mul_assoc]
                congr 1
                rw [show n - i = (n - (i + 1)) + 1 by omega, Nat.pow_succ, Nat.mul_comm]
              have HM2 : Hid ((digQ (M * 10 + 0)).length ≤ 40000) := Nat.le_trans (digQ_mono (by rw [← HE.out]; exact Nat.le_mul_of_pos_right _ (Nat.pow_pos (by decide)))) HLR.out
              clear HI hMR
              generalize M * 10 + 0 = M2 at *
              go_wp2_with (go_at_call 74; refine ht.mono ?_; clear ht; rintro e w1 ⟨v1, rfl, hq1, ⟨a1, c1, rfl⟩, -, hb1⟩; have HQ1 : Hid (QAt w1 (.slice a1 (digQ M2).length c1) M2) := hq1; have HB1 : Hid (Below w.heap.size w w1) := HBL.out.trans (hb1.mono HBL.out.size); clear hq1 hb1; obtain ⟨l1, hl1⟩ : ∃ l1, l1 = (digQ M2).length := ⟨_, rfl⟩; rw [← hl1] at HQ1 ⊢; have HL1 : Hid (l1 = (digQ M2).length) := hl1; clear hl1)
              go_roundw
              case rel => exact ⟨M2, i + 1, l1, a1, c1, rfl, by go_num, by omega, by rw [HL1.out]; exact HM2.out, HL1.out, HQ1.out, HE.out, HB1.out⟩
              case measure => simp [intOf]; omega
          · have hlti : ¬ (i : Int) < n := by omega
            have HRR : Hid (R = M) := by show _ = _; rw [← HI.out.2.2.1, show n - i = 0 by omega]; simp
            have HQ : Hid (QAt wr (.slice a l c) M) := HI.out.2.1
            clear HI
            go_wp2
            go_ret
            exact ⟨_, rfl, by rw [HRR.out]; exact HQ.out, HBL.out⟩
    · have h4i : ¬ (4 : Int) ≤ n := by omega
      clear hbig h4
      go_enter Tryz.func130, Tryz.ntmps130
      go_wp2
      go_loopw [0, 2] (fun av nv wr => av = .slice a l c ∧ nv = .int .i64 n ∧ wr = w) (fun _ _ _ => 0)
      case atStart => exact ⟨rfl, rfl, rfl⟩
      case round =>
        obtain ⟨rfl, rfl, hw⟩ := hrel
        have hw := hw.symm
        subst hw
        go_wp2
        go_loopw [0, 7] (fun av iv wu => ∃ (M i l : Nat) (a : Option Addr) (c : Nat), av = .slice a l c ∧ iv = .int .i64 i ∧ i ≤ n ∧ l ≤ 40000 ∧ Hid (l = (digQ M).length ∧ QAt wu (.slice a l c) M ∧ M * 10 ^ (n - i) = R ∧ Below w.heap.size w wu)) (fun _ iv _ => n - (intOf iv).toNat)
        case atStart => exact ⟨N, 0, l, a, c, rfl, rfl, Nat.zero_le _, by rw [HI.out.1]; exact Nat.le_trans (digQ_mono (by rw [← HI.out.2.2.1]; exact Nat.le_mul_of_pos_right _ (Nat.pow_pos (by decide)))) HLR.out, HI.out.1, HI.out.2.1, HI.out.2.2.1, HI.out.2.2.2⟩
        case round =>
          clear HI HBL
          obtain ⟨M, i, l, a, c, rfl, rfl, hi, hl4, HI⟩ := hrel
          have HBL : Hid (Below w.heap.size w wr) := HI.out.2.2.2
          by_cases hlt : i < n
          · have hlti : (i : Int) < n := by omega
            by_cases h0 : l = 0
            · have hM : M = 0 := digQ_nil.1 (by rw [← HI.out.1]; exact h0)
              have HRR : Hid (R = M) := by show _ = _; rw [← HI.out.2.2.1, hM]; simp
              have HQ : Hid (QAt wr (.slice a l c) M) := HI.out.2.1
              have h0i : ¬ (0 : Int) < l := by omega
              clear HI hM h0
              go_wp2
              go_ret
              exact ⟨_, rfl, by rw [HRR.out]; exact HQ.out, HBL.out⟩
            · have h0i : (0 : Int) < l := by omega
              have hMR : M ≤ R := by rw [← HI.out.2.2.1]; exact Nat.le_mul_of_pos_right _ (Nat.pow_pos (by decide))
              have ht := refTimes_nat (.slice a l c) M 10 0 wr HI.out.2.1 (by decide) (by decide) (by decide) (Nat.le_trans (digQ_mono hMR) (Nat.le_trans HLR.out (by decide)))
              have ht : Calls Tryz.prog 74 #[.slice a l c, .int .i64 10, .int .i64 0] wr fun e w' => ∃ v', e = .returned v' ∧ QAt w' v' (M * 10 + 0) ∧ (∃ a c, v' = .slice a (digQ (M * 10 + 0)).length c) ∧ DRow w' wr.heap.size v' (digQ (M * 10 + 0)) ∧ Below wr.heap.size wr w' := ht
              have HE : Hid ((M * 10 + 0) * 10 ^ (n - (i + 1)) = R) := by
                show _ = _
                rw [← HI.out.2.2.1, Nat.add_zero, Nat.mul_assoc]
                congr 1
                rw [show n - i = (n - (i + 1)) + 1 by omega, Nat.pow_succ, Nat.mul_comm]
              have HM2 : Hid ((digQ (M * 10 + 0)).length ≤ 40000) := Nat.le_trans (digQ_mono (by rw [← HE.out]; exact Nat.le_mul_of_pos_right _ (Nat.pow_pos (by decide)))) HLR.out
              clear HI hMR
              generalize M * 10 + 0 = M2 at *
              go_wp2_with (go_at_call 74; refine ht.mono ?_; clear ht; rintro e w1 ⟨v1, rfl, hq1, ⟨a1, c1, rfl⟩, -, hb1⟩; have HQ1 : Hid (QAt w1 (.slice a1 (digQ M2).length c1) M2) := hq1; have HB1 : Hid (Below w.heap.size w w1) := HBL.out.trans (hb1.mono HBL.out.size); clear hq1 hb1; obtain ⟨l1, hl1⟩ : ∃ l1, l1 = (digQ M2).length := ⟨_, rfl⟩; rw [← hl1] at HQ1 ⊢; have HL1 : Hid (l1 = (digQ M2).length) := hl1; clear hl1)
              go_roundw
              case rel => exact ⟨M2, i + 1, l1, a1, c1, rfl, by go_num, by omega, by rw [HL1.out]; exact HM2.out, HL1.out, HQ1.out, HE.out, HB1.out⟩
              case measure => simp [intOf]; omega
          · have hlti : ¬ (i : Int) < n := by omega
            have HRR : Hid (R = M) := by show _ = _; rw [← HI.out.2.2.1, show n - i = 0 by omega]; simp
            have HQ : Hid (QAt wr (.slice a l c) M) := HI.out.2.1
            clear HI
            go_wp2
            go_ret
            exact ⟨_, rfl, by rw [HRR.out]; exact HQ.out, HBL.out⟩
end Go.Proofs.YtfckdleahljdeaaGreatDoor.Nu
