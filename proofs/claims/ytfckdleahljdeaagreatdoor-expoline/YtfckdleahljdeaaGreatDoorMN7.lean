/- Quotients as floats: the walk. -/
import Derived.Test.YtfckdleahljdeaaGreatDoorMN5
namespace Go.Proofs.YtfckdleahljdeaaGreatDoor.Nu
open Go.RowKit Go.Maps

set_option maxRecDepth 100000 in
set_option maxHeartbeats 4000000 in
theorem quot_any (v u : Value) (A_ D : Nat) (w : World) (h1 : BigAt w v A_) (h2 : BigAt w u D) (hA : A_ < B 400) (hD : D < B 400) (hA0 : A_ ≠ 0) (hD0 : D ≠ 0) (htop : (A_.log2 : Int) - D.log2 ≤ 3000) :
    Calls Tryz.prog 91 #[v, u] w fun e w' => e = .returned (.int .u64 (quotN A_ D : Nat)) ∧ Below w.heap.size w w' := by
  have hB4 : B 400 ≤ B 1000 := B_mono (by decide)
  have hlA := log_le hA hA0
  have hlD := log_le hD hD0
  have hlev := level hA0 hD0
  obtain ⟨la, hla⟩ : ∃ la : Nat, la = A_.log2 + 1 := ⟨_, rfl⟩
  obtain ⟨ld, hld⟩ : ∃ ld : Nat, ld = D.log2 + 1 := ⟨_, rfl⟩
  have hsub : (A_.log2 : Int) - D.log2 = (la : Int) - ld := by omega
  have hsub2 : (D.log2 : Int) - A_.log2 = (ld : Int) - la := by omega
  have hL1 := length_any v A_ w h1 (by omega) hA0
  have hL2 := length_any u D w h2 (by omega) hD0
  have hS1 := shifted_any v A_ ((D.log2 : Int) - A_.log2).toNat w h1 (by omega) (by omega)
  have HS2 : Hid (∀ W, Below w.heap.size w W → Calls Tryz.prog 109 #[u, .int .i64 (((A_.log2 : Int) - D.log2).toNat : Nat)] W fun e w' => ∃ v', e = .returned v' ∧ Big w' W.heap.size v' (D * 2 ^ ((A_.log2 : Int) - D.log2).toNat) ∧ Below W.heap.size W w') := fun W hW => shifted_any u D _ W (h2.below hW) (by omega) (by omega)
  have hsm := small_shift (k := ((A_.log2 : Int) - D.log2).toNat) hD (by omega)
  have HQ : Hid (quotN A_ D = if A_ * 2 ^ ((D.log2 : Int) - A_.log2).toNat < D * 2 ^ ((A_.log2 : Int) - D.log2).toNat then quotB (A_ * 2 ^ ((D.log2 : Int) - A_.log2).toNat * 2) (D * 2 ^ ((A_.log2 : Int) - D.log2).toNat) ((A_.log2 : Int) - D.log2 - 1)
  else quotB (A_ * 2 ^ ((D.log2 : Int) - A_.log2).toNat) (D * 2 ^ ((A_.log2 : Int) - D.log2).toNat) ((A_.log2 : Int) - D.log2)) := rfl
  rw [← hla] at hL1
  rw [← hld] at hL2
  obtain ⟨A1, hA1⟩ : ∃ A1, A1 = A_ * 2 ^ ((D.log2 : Int) - A_.log2).toNat := ⟨_, rfl⟩
  obtain ⟨D1, hD1⟩ : ∃ D1, D1 = D * 2 ^ ((A_.log2 : Int) - D.log2).toNat := ⟨_, rfl⟩
  rw [← hA1, ← hD1] at hlev HQ
  rw [← hD1] at HS2 hsm
  rw [← hA1] at hS1
  rw [hsub] at HS2 htop HQ
  rw [hsub2] at hS1
  have em1 : ((((ld : Int) - la).toNat : Nat) : Int) = max (-((la : Int) - ld)) 0 := by omega
  have em2 : ((((la : Int) - ld).toNat : Nat) : Int) = max ((la : Int) - ld) 0 := by omega
  rw [em1] at hS1
  rw [em2] at HS2
  have hla1 : la ≤ 12800 := by omega
  have hld1 : ld ≤ 12800 := by omega
  have hB9 : B 999 ≤ B 1000 := B_mono (by decide)
  have HB9 : Hid (2 * D1 < B 999) := hsm
  have HCMP : Hid (∀ v1 u1 W, Big W w.heap.size v1 A1 → Big W w.heap.size u1 D1 → Calls Tryz.prog 110 #[v1, u1] W fun e w' => e = .returned (.int .i64 (cmpN A1 D1)) ∧ ∃ q, w' = W.drewN q) := fun v1 u1 W b1 b2 => compare_any v1 u1 A1 D1 W b1.at b2.at (by omega) (by omega)
  have HGR : Hid (∀ v1 W, Big W w.heap.size v1 A1 → w.heap.size ≤ W.heap.size → Calls Tryz.prog 88 #[v1, .int .u32 2, .int .u32 0] W fun e w' => ∃ v', e = .returned v' ∧ Big w' w.heap.size v' (A1 * 2) ∧ Step W w' v1 v') := fun v1 W hV hW => (grown_any w.heap.size v1 A1 2 0 W hV (by decide) (by decide) (by decide) (by omega) hW).mono fun e w' ⟨v', he, hb, hs⟩ => ⟨v', he, by rw [Nat.add_zero] at hb; exact hb, hs⟩
  clear h1 h2 hsub hsub2 em1 em2 hla hld hA1 hD1 hA hD hA0 hD0 hlA hlD hsm hB4 hB9
  by_cases hlt : A1 < D1
  · have hcl := cmp_lt hlt
    rw [hcl] at HCMP
    rw [if_pos hlt] at HQ
    go_enter Tryz.func91, Tryz.ntmps91
    go_wp2_with (first
      | (go_at_call 108; refine hL1.mono ?_; clear hL1; rintro e w1 ⟨rfl, hw1⟩; have hw1 := hw1.symm; subst hw1)
      | (go_at_call 108; refine hL2.mono ?_; clear hL2; rintro e w1 ⟨rfl, hw1⟩; have hw1 := hw1.symm; subst hw1)
      | (go_at_call 109; refine hS1.mono ?_; clear hS1; rintro e w2 ⟨v1, rfl, hv1, hb2⟩; have hS2 := HS2.out _ hb2; clear HS2)
      | (go_at_call 109; refine hS2.mono ?_; clear hS2; rintro e w3 ⟨u1, rfl, hu1, hb3⟩; have hbw3 := hb2.trans (hb3.mono hb2.size); have hv3 := hv1.below hb3; have hu3 := hu1.base hb2.size; have hne3 : (∀ k, u1.ownBlock = some k → ¬ v1.ownBlock = some k) := (fun k h1 h2 => by have := (hu1.lt k h1).1; have := (hv1.lt k h2).2; omega))
      | (go_at_call 110; refine (HCMP.out _ _ _ hv3 hu3).mono ?_; clear HCMP; rintro e w4 ⟨rfl, q, rfl⟩; have hbw4 := below_drewN hbw3 q; have hv4 := hv3.drewN q; have hu4 := hu3.drewN q)
      | (go_at_call 88; refine (HGR.out _ _ hv4 hbw4.size).mono ?_; clear HGR; rintro e w5 ⟨v5, rfl, hv5, hs5⟩))
    · have hk5 := hu4.step hs5 hne3
      have hbwW := hbw4.trans (hs5.below hv4 hbw4.size)
      have hvW := hv5
      have huW := hk5.1
      have hneW := hk5.2
      clear hk5 hv5 hs5 hv4 hu4 hbw4 hv3 hu3 hbw3 hne3 hv1 hu1 hb2 hb3
      have HBW : Hid (Below w.heap.size w w5) := hbwW
      have HR0 : Hid (quotN A_ D = 0) := by
        show _ = _
        rw [HQ.out]
        unfold quotB
        rw [if_pos (by omega)]
      go_ret
      exact ⟨by rw [HR0.out]; rfl, HBW.out⟩
    · have hk5 := hu4.step hs5 hne3
      have hbwW := hbw4.trans (hs5.below hv4 hbw4.size)
      have hvW := hv5
      have huW := hk5.1
      have hneW := hk5.2
      clear hk5 hv5 hs5 hv4 hu4 hbw4 hv3 hu3 hbw3 hne3 hv1 hu1 hb2 hb3
      have HBW : Hid (Below w.heap.size w w5) := hbwW
      have HV2 : Hid (Big w5 w.heap.size v5 (A1 * 2)) := hvW
      have HU2 : Hid (Big w5 w.heap.size u1 D1) := huW
      have HNE : Hid (∀ k, u1.ownBlock = some k → ¬ v5.ownBlock = some k) := hneW
      have HLT : Hid ((A1 * 2) < 2 * D1) := by show _ < _; omega
      clear hbwW hvW huW hneW
      have hT : ¬ ((la : Int) - ld - 1) < -1075 := by omega
      obtain ⟨n, hn⟩ : ∃ n, n = (((la : Int) - ld - 1) - powQ ((la : Int) - ld - 1) + 1).toNat := ⟨_, rfl⟩
      have hpq : powQ ((la : Int) - ld - 1) = max (((la : Int) - ld - 1) - 52) (-1074) := rfl
      have HPQ : Hid (-1074 ≤ powQ ((la : Int) - ld - 1) ∧ powQ ((la : Int) - ld - 1) ≤ 2948) := by show _ ∧ _; rw [hpq]; omega
      have HNQ : Hid (n = (((la : Int) - ld - 1) - powQ ((la : Int) - ld - 1) + 1).toNat) := hn
      have hn53 : n ≤ 53 := by rw [hpq] at hn; omega
      have hnI : ((la : Int) - ld - 1) - max (((la : Int) - ld - 1) - 52) (-1074) + 1 = (n : Int) := by rw [hpq] at hn; omega
      clear hn hpq
      rw [hnI]
      clear hnI

      go_loopw [0, 7, 40] (fun s cy i wr => ∃ (j A c : Nat), j ≤ n ∧ i = .int .i64 j ∧ cy = .int .u64 c ∧ c < 1152921504606846976 ∧ Hid (c < 2 ^ j ∧ Big wr w.heap.size s A ∧ Big wr w.heap.size u1 D1 ∧ (∀ k, u1.ownBlock = some k → ¬ s.ownBlock = some k) ∧ A < 2 * D1 ∧ divL D1 (n - j) A c = divL D1 n (A1 * 2) 0 ∧ Below w.heap.size w wr)) (fun _ _ i _ => n - (intOf i).toNat)
      case atStart => exact ⟨0, (A1 * 2), 0, Nat.zero_le _, rfl, rfl, by omega, by simp, HV2.out, HU2.out, HNE.out, HLT.out, by simp, HBW.out⟩
      case round =>
        obtain ⟨j, A, c, hj, rfl, rfl, hc, hI⟩ := hrel
        obtain ⟨hc2, hb1, hb2, hne, hlt, heq, hbl⟩ := hI.out
        have hsz := hbl.size
        have hA9 : A < B 999 := by have := HB9.out; omega
        have hcmp := compare_any u0 u1 A D1 wr hb1.at hb2.at (by have := HB9.out; have := B_mono (show 999 ≤ 1000 by decide); omega) (by have := HB9.out; have := B_mono (show 999 ≤ 1000 by decide); omega)
        by_cases hjn : j < n
        · have hc61 : c * 2 + 1 < 1152921504606846976 := cnt_lt (j + 1) _ (by rw [Nat.pow_succ]; omega) (by omega)
          by_cases hge : D1 ≤ A
          · have hcg := cmp_ge hge
            generalize cmpN A D1 = r at *
            have HM : Hid (∀ q, Calls Tryz.prog 111 #[u0, u1] (wr.drewN q) fun e w' => ∃ v', e = .returned v' ∧ Big w' w.heap.size v' (A - D1) ∧ Step (wr.drewN q) w' u0 v') := fun q => minus_any w.heap.size u0 u1 A D1 _ (hb1.drewN q) (hb2.drewN q).at hne hge (by have := B_mono (show 999 ≤ 1000 by decide); omega)
            have HG : Hid (∀ v1 W, Big W w.heap.size v1 (A - D1) → w.heap.size ≤ W.heap.size → Calls Tryz.prog 88 #[v1, .int .u32 2, .int .u32 0] W fun e w' => ∃ v', e = .returned v' ∧ Big w' w.heap.size v' ((A - D1) * 2) ∧ Step W w' v1 v') := fun v1 W hV hW => (grown_any w.heap.size v1 (A - D1) 2 0 W hV (by decide) (by decide) (by decide) (by have := B_mono (show 999 ≤ 1000 by decide); omega) hW).mono fun e w' ⟨v', he, hb, hs⟩ => ⟨v', he, by rw [Nat.add_zero] at hb; exact hb, hs⟩
            have HD : Hid (divL D1 (n - (j + 1)) ((A - D1) * 2) (c * 2 + 1) = divL D1 n (A1 * 2) 0) := by
              show _ = _
              rw [← heq, show n - j = (n - (j + 1)) + 1 by omega, divL, if_pos hge]
            have HF : Hid (∀ q, Big (wr.drewN q) w.heap.size u1 D1 ∧ Big (wr.drewN q) w.heap.size u0 A) := fun q => ⟨hb2.drewN q, hb1.drewN q⟩
            have HN1 : Hid (∀ k, u1.ownBlock = some k → ¬ u0.ownBlock = some k) := hne
            have HBL : Hid (Below w.heap.size w wr) := hbl
            have HC2 : Hid (c < 2 ^ j) := hc2
            have HLT1 : Hid (A < 2 * D1) := hlt
            clear hI hb1 hb2 hne heq hbl hA9 hge hc2 hlt
            go_wp2_with (first
              | (go_at_call 110; refine hcmp.mono ?_; clear hcmp; rintro e w3 ⟨rfl, q, rfl⟩)
              | (go_at_call 111; refine (HM.out q).mono ?_; clear HM; rintro e w4 ⟨v4, rfl, hv4, hs4⟩; have hk4 := (HF.out q).1.step hs4 HN1.out; have hbl4 := (below_drewN HBL.out q).trans (hs4.below (HF.out q).2 hsz); have hsz4 := hbl4.size)
              | (go_at_call 88; refine (HG.out _ _ hv4 hsz4).mono ?_; clear HG; rintro e w5 ⟨v5, rfl, hv5, hs5⟩; have hk5 := hk4.1.step hs5 hk4.2; have hbl5 := hbl4.trans (hs5.below hv4 hsz4)))
            go_roundw
            case rel =>
              have h1 := HC2.out
              have h2 := HLT1.out
              exact ⟨j + 1, (A - D1) * 2, c * 2 + 1, by omega, by go_num, by first | (congr 1; omega) | congr 1, by omega, by rw [Nat.pow_succ]; omega, hv5, hk5.1, hk5.2, by omega, HD.out, hbl5⟩
            case measure => simp [intOf]; omega
          · have hcg : cmpN A D1 = -1 := cmp_lt (by omega)
            rw [hcg] at hcmp
            clear hcg
            have HG : Hid (∀ q, Calls Tryz.prog 88 #[u0, .int .u32 2, .int .u32 0] (wr.drewN q) fun e w' => ∃ v', e = .returned v' ∧ Big w' w.heap.size v' (A * 2) ∧ Step (wr.drewN q) w' u0 v') := fun q => by
              exact (grown_any w.heap.size u0 A 2 0 _ (hb1.drewN q) (by decide) (by decide) (by decide) (by have := B_mono (show 999 ≤ 1000 by decide); omega) (below_drewN hbl q).size).mono fun e w' ⟨v', he, hb, hs⟩ => ⟨v', he, by rw [Nat.add_zero] at hb; exact hb, hs⟩
            have HD : Hid (divL D1 (n - (j + 1)) (A * 2) (c * 2) = divL D1 n (A1 * 2) 0) := by
              show _ = _
              rw [← heq, show n - j = (n - (j + 1)) + 1 by omega, divL, if_neg hge]
            have HF : Hid (∀ q, Big (wr.drewN q) w.heap.size u1 D1 ∧ Big (wr.drewN q) w.heap.size u0 A) := fun q => ⟨hb2.drewN q, hb1.drewN q⟩
            have HN1 : Hid (∀ k, u1.ownBlock = some k → ¬ u0.ownBlock = some k) := hne
            have HBL : Hid (Below w.heap.size w wr) := hbl
            have HC2 : Hid (c < 2 ^ j) := hc2
            have HGE : Hid (¬ D1 ≤ A) := hge
            clear hI hb1 hb2 hne heq hbl hA9 hge hc2 hlt
            go_wp2_with (first
              | (go_at_call 110; refine hcmp.mono ?_; clear hcmp; rintro e w3 ⟨rfl, q, rfl⟩)
              | (go_at_call 88; refine (HG.out q).mono ?_; clear HG; rintro e w5 ⟨v5, rfl, hv5, hs5⟩; have hk5 := (HF.out q).1.step hs5 HN1.out; have hbl5 := (below_drewN HBL.out q).trans (hs5.below (HF.out q).2 hsz)))
            go_roundw
            case rel =>
              have h1 := HC2.out
              have h2 := HGE.out
              exact ⟨j + 1, A * 2, c * 2, by omega, by go_num, by first | (congr 1; omega) | congr 1, by omega, by rw [Nat.pow_succ]; omega, hv5, hk5.1, hk5.2, by omega, HD.out, hbl5⟩
            case measure => simp [intOf]; omega
        · obtain rfl : j = n := by omega
          rw [Nat.sub_self, divL] at heq
          obtain ⟨e, he⟩ : ∃ e, e = (powQ ((la : Int) - ld - 1) + 1074).toNat := ⟨_, rfl⟩
          have hpq := HPQ.out
          have he1 : e ≤ 4022 := by omega
          have hmx : max (((la : Int) - ld - 1) - 52) (-1074) = (e : Int) - 1074 := by
            have h9 : powQ ((la : Int) - ld - 1) = max (((la : Int) - ld - 1) - 52) (-1074) := rfl
            omega
          have HRES : Hid (quotB (A1 * 2) D1 ((la : Int) - ld - 1) = min (roundQ D1 (A, c) + e * 4503599627370496) 9218868437227405312) := by
            show _ = _
            unfold quotB
            rw [if_neg hT, ← HNQ.out, ← heq, ← he]
          have HBL : Hid (Below w.heap.size w wr) := hbl
          have hc53 : c < 9007199254740992 := Nat.lt_of_lt_of_le hc2 (Nat.pow_le_pow_right (n := 2) (by decide) hn53)
          rw [hmx]
          clear hI hb1 hb2 hne heq hbl hA9 hlt hc2 hpq he hmx hT HPQ HNQ HLT
          rcases Nat.lt_trichotomy A D1 with h9 | h9 | h9
          · have hcg : cmpN A D1 = -1 := cmp_lt h9
            rw [hcg] at hcmp
            have HRQ : Hid (quotN A_ D = min (c + e * 4503599627370496) 9218868437227405312) := by
              show _ = _
              rw [HQ.out, HRES.out]
              unfold roundQ
              rw [if_neg (by omega)]
            clear hcg HRES HQ h9
            go_wp2_with (go_at_call 110; refine hcmp.mono ?_; clear hcmp; rintro e w3 ⟨rfl, q, rfl⟩)
            go_ret
            exact ⟨ret_u64 (by first | exact fin_c HRQ.out | exact fin_c1 HRQ.out), below_drewN HBL.out q⟩
          · have hcg : cmpN A D1 = 0 := by rw [h9]; exact cmp_eq _
            rw [hcg] at hcmp
            by_cases hp : c % 2 = 1
            · have HRQ : Hid (quotN A_ D = min ((c + 1) + e * 4503599627370496) 9218868437227405312) := by
                show _ = _
                rw [HQ.out, HRES.out]
                unfold roundQ
                rw [if_pos (Or.inr ⟨h9, hp⟩)]
              have hpI : (c : Int) % 2 = 1 := by omega
              clear hcg HRES HQ h9 hp
              go_wp2_with (go_at_call 110; refine hcmp.mono ?_; clear hcmp; rintro e w3 ⟨rfl, q, rfl⟩)
              go_ret
              exact ⟨ret_u64 (by first | exact fin_c HRQ.out | exact fin_c1 HRQ.out), below_drewN HBL.out q⟩
            · have HRQ : Hid (quotN A_ D = min (c + e * 4503599627370496) 9218868437227405312) := by
                show _ = _
                rw [HQ.out, HRES.out]
                unfold roundQ
                rw [if_neg (by simp only; omega)]
              have hpI : (c : Int) % 2 = 0 := by omega
              clear hcg HRES HQ h9 hp
              go_wp2_with (go_at_call 110; refine hcmp.mono ?_; clear hcmp; rintro e w3 ⟨rfl, q, rfl⟩)
              go_ret
              exact ⟨ret_u64 (by first | exact fin_c HRQ.out | exact fin_c1 HRQ.out), below_drewN HBL.out q⟩
          · have hcg : cmpN A D1 = 1 := cmp_gt h9
            rw [hcg] at hcmp
            have HRQ : Hid (quotN A_ D = min ((c + 1) + e * 4503599627370496) 9218868437227405312) := by
              show _ = _
              rw [HQ.out, HRES.out]
              unfold roundQ
              rw [if_pos (Or.inl h9)]
            clear hcg HRES HQ h9
            go_wp2_with (go_at_call 110; refine hcmp.mono ?_; clear hcmp; rintro e w3 ⟨rfl, q, rfl⟩)
            go_ret
            exact ⟨ret_u64 (by first | exact fin_c HRQ.out | exact fin_c1 HRQ.out), below_drewN HBL.out q⟩
  · have hcg := cmp_ge (show D1 ≤ A1 by omega)
    rw [if_neg hlt] at HQ
    generalize cmpN A1 D1 = r at *
    go_enter Tryz.func91, Tryz.ntmps91
    go_wp2_with (first
      | (go_at_call 108; refine hL1.mono ?_; clear hL1; rintro e w1 ⟨rfl, hw1⟩; have hw1 := hw1.symm; subst hw1)
      | (go_at_call 108; refine hL2.mono ?_; clear hL2; rintro e w1 ⟨rfl, hw1⟩; have hw1 := hw1.symm; subst hw1)
      | (go_at_call 109; refine hS1.mono ?_; clear hS1; rintro e w2 ⟨v1, rfl, hv1, hb2⟩; have hS2 := HS2.out _ hb2; clear HS2)
      | (go_at_call 109; refine hS2.mono ?_; clear hS2; rintro e w3 ⟨u1, rfl, hu1, hb3⟩; have hbw3 := hb2.trans (hb3.mono hb2.size); have hv3 := hv1.below hb3; have hu3 := hu1.base hb2.size; have hne3 : (∀ k, u1.ownBlock = some k → ¬ v1.ownBlock = some k) := (fun k h1 h2 => by have := (hu1.lt k h1).1; have := (hv1.lt k h2).2; omega))
      | (go_at_call 110; refine (HCMP.out _ _ _ hv3 hu3).mono ?_; clear HCMP; rintro e w4 ⟨rfl, q, rfl⟩; have hbw4 := below_drewN hbw3 q; have hv4 := hv3.drewN q; have hu4 := hu3.drewN q))
    · have hbwW := hbw4
      have hvW := hv4
      have huW := hu4
      have hneW := hne3
      generalize w3.drewN q = WW at *
      clear hv4 hu4 hbw4 hv3 hu3 hbw3 hne3 hv1 hu1 hb2 hb3
      have HBW : Hid (Below w.heap.size w WW) := hbwW
      have HR0 : Hid (quotN A_ D = 0) := by
        show _ = _
        rw [HQ.out]
        unfold quotB
        rw [if_pos (by omega)]
      go_ret
      exact ⟨by rw [HR0.out]; rfl, HBW.out⟩
    · have hbwW := hbw4
      have hvW := hv4
      have huW := hu4
      have hneW := hne3
      generalize w3.drewN q = WW at *
      clear hv4 hu4 hbw4 hv3 hu3 hbw3 hne3 hv1 hu1 hb2 hb3
      have HBW : Hid (Below w.heap.size w WW) := hbwW
      have HV2 : Hid (Big WW w.heap.size v1 A1) := hvW
      have HU2 : Hid (Big WW w.heap.size u1 D1) := huW
      have HNE : Hid (∀ k, u1.ownBlock = some k → ¬ v1.ownBlock = some k) := hneW
      have HLT : Hid (A1 < 2 * D1) := by show _ < _; omega
      clear hbwW hvW huW hneW
      have hT : ¬ ((la : Int) - ld) < -1075 := by omega
      obtain ⟨n, hn⟩ : ∃ n, n = (((la : Int) - ld) - powQ ((la : Int) - ld) + 1).toNat := ⟨_, rfl⟩
      have hpq : powQ ((la : Int) - ld) = max (((la : Int) - ld) - 52) (-1074) := rfl
      have HPQ : Hid (-1074 ≤ powQ ((la : Int) - ld) ∧ powQ ((la : Int) - ld) ≤ 2948) := by show _ ∧ _; rw [hpq]; omega
      have HNQ : Hid (n = (((la : Int) - ld) - powQ ((la : Int) - ld) + 1).toNat) := hn
      have hn53 : n ≤ 53 := by rw [hpq] at hn; omega
      have hnI : ((la : Int) - ld) - max (((la : Int) - ld) - 52) (-1074) + 1 = (n : Int) := by rw [hpq] at hn; omega
      clear hn hpq
      rw [hnI]
      clear hnI

      go_loopw [0, 7, 40] (fun s cy i wr => ∃ (j A c : Nat), j ≤ n ∧ i = .int .i64 j ∧ cy = .int .u64 c ∧ c < 1152921504606846976 ∧ Hid (c < 2 ^ j ∧ Big wr w.heap.size s A ∧ Big wr w.heap.size u1 D1 ∧ (∀ k, u1.ownBlock = some k → ¬ s.ownBlock = some k) ∧ A < 2 * D1 ∧ divL D1 (n - j) A c = divL D1 n A1 0 ∧ Below w.heap.size w wr)) (fun _ _ i _ => n - (intOf i).toNat)
      case atStart => exact ⟨0, A1, 0, Nat.zero_le _, rfl, rfl, by omega, by simp, HV2.out, HU2.out, HNE.out, HLT.out, by simp, HBW.out⟩
      case round =>
        obtain ⟨j, A, c, hj, rfl, rfl, hc, hI⟩ := hrel
        obtain ⟨hc2, hb1, hb2, hne, hlt, heq, hbl⟩ := hI.out
        have hsz := hbl.size
        have hA9 : A < B 999 := by have := HB9.out; omega
        have hcmp := compare_any u0 u1 A D1 wr hb1.at hb2.at (by have := HB9.out; have := B_mono (show 999 ≤ 1000 by decide); omega) (by have := HB9.out; have := B_mono (show 999 ≤ 1000 by decide); omega)
        by_cases hjn : j < n
        · have hc61 : c * 2 + 1 < 1152921504606846976 := cnt_lt (j + 1) _ (by rw [Nat.pow_succ]; omega) (by omega)
          by_cases hge : D1 ≤ A
          · have hcg := cmp_ge hge
            generalize cmpN A D1 = r at *
            have HM : Hid (∀ q, Calls Tryz.prog 111 #[u0, u1] (wr.drewN q) fun e w' => ∃ v', e = .returned v' ∧ Big w' w.heap.size v' (A - D1) ∧ Step (wr.drewN q) w' u0 v') := fun q => minus_any w.heap.size u0 u1 A D1 _ (hb1.drewN q) (hb2.drewN q).at hne hge (by have := B_mono (show 999 ≤ 1000 by decide); omega)
            have HG : Hid (∀ v1 W, Big W w.heap.size v1 (A - D1) → w.heap.size ≤ W.heap.size → Calls Tryz.prog 88 #[v1, .int .u32 2, .int .u32 0] W fun e w' => ∃ v', e = .returned v' ∧ Big w' w.heap.size v' ((A - D1) * 2) ∧ Step W w' v1 v') := fun v1 W hV hW => (grown_any w.heap.size v1 (A - D1) 2 0 W hV (by decide) (by decide) (by decide) (by have := B_mono (show 999 ≤ 1000 by decide); omega) hW).mono fun e w' ⟨v', he, hb, hs⟩ => ⟨v', he, by rw [Nat.add_zero] at hb; exact hb, hs⟩
            have HD : Hid (divL D1 (n - (j + 1)) ((A - D1) * 2) (c * 2 + 1) = divL D1 n A1 0) := by
              show _ = _
              rw [← heq, show n - j = (n - (j + 1)) + 1 by omega, divL, if_pos hge]
            have HF : Hid (∀ q, Big (wr.drewN q) w.heap.size u1 D1 ∧ Big (wr.drewN q) w.heap.size u0 A) := fun q => ⟨hb2.drewN q, hb1.drewN q⟩
            have HN1 : Hid (∀ k, u1.ownBlock = some k → ¬ u0.ownBlock = some k) := hne
            have HBL : Hid (Below w.heap.size w wr) := hbl
            have HC2 : Hid (c < 2 ^ j) := hc2
            have HLT1 : Hid (A < 2 * D1) := hlt
            clear hI hb1 hb2 hne heq hbl hA9 hge hc2 hlt
            go_wp2_with (first
              | (go_at_call 110; refine hcmp.mono ?_; clear hcmp; rintro e w3 ⟨rfl, q, rfl⟩)
              | (go_at_call 111; refine (HM.out q).mono ?_; clear HM; rintro e w4 ⟨v4, rfl, hv4, hs4⟩; have hk4 := (HF.out q).1.step hs4 HN1.out; have hbl4 := (below_drewN HBL.out q).trans (hs4.below (HF.out q).2 hsz); have hsz4 := hbl4.size)
              | (go_at_call 88; refine (HG.out _ _ hv4 hsz4).mono ?_; clear HG; rintro e w5 ⟨v5, rfl, hv5, hs5⟩; have hk5 := hk4.1.step hs5 hk4.2; have hbl5 := hbl4.trans (hs5.below hv4 hsz4)))
            go_roundw
            case rel =>
              have h1 := HC2.out
              have h2 := HLT1.out
              exact ⟨j + 1, (A - D1) * 2, c * 2 + 1, by omega, by go_num, by first | (congr 1; omega) | congr 1, by omega, by rw [Nat.pow_succ]; omega, hv5, hk5.1, hk5.2, by omega, HD.out, hbl5⟩
            case measure => simp [intOf]; omega
          · have hcg : cmpN A D1 = -1 := cmp_lt (by omega)
            rw [hcg] at hcmp
            clear hcg
            have HG : Hid (∀ q, Calls Tryz.prog 88 #[u0, .int .u32 2, .int .u32 0] (wr.drewN q) fun e w' => ∃ v', e = .returned v' ∧ Big w' w.heap.size v' (A * 2) ∧ Step (wr.drewN q) w' u0 v') := fun q => by
              exact (grown_any w.heap.size u0 A 2 0 _ (hb1.drewN q) (by decide) (by decide) (by decide) (by have := B_mono (show 999 ≤ 1000 by decide); omega) (below_drewN hbl q).size).mono fun e w' ⟨v', he, hb, hs⟩ => ⟨v', he, by rw [Nat.add_zero] at hb; exact hb, hs⟩
            have HD : Hid (divL D1 (n - (j + 1)) (A * 2) (c * 2) = divL D1 n A1 0) := by
              show _ = _
              rw [← heq, show n - j = (n - (j + 1)) + 1 by omega, divL, if_neg hge]
            have HF : Hid (∀ q, Big (wr.drewN q) w.heap.size u1 D1 ∧ Big (wr.drewN q) w.heap.size u0 A) := fun q => ⟨hb2.drewN q, hb1.drewN q⟩
            have HN1 : Hid (∀ k, u1.ownBlock = some k → ¬ u0.ownBlock = some k) := hne
            have HBL : Hid (Below w.heap.size w wr) := hbl
            have HC2 : Hid (c < 2 ^ j) := hc2
            have HGE : Hid (¬ D1 ≤ A) := hge
            clear hI hb1 hb2 hne heq hbl hA9 hge hc2 hlt
            go_wp2_with (first
              | (go_at_call 110; refine hcmp.mono ?_; clear hcmp; rintro e w3 ⟨rfl, q, rfl⟩)
              | (go_at_call 88; refine (HG.out q).mono ?_; clear HG; rintro e w5 ⟨v5, rfl, hv5, hs5⟩; have hk5 := (HF.out q).1.step hs5 HN1.out; have hbl5 := (below_drewN HBL.out q).trans (hs5.below (HF.out q).2 hsz)))
            go_roundw
            case rel =>
              have h1 := HC2.out
              have h2 := HGE.out
              exact ⟨j + 1, A * 2, c * 2, by omega, by go_num, by first | (congr 1; omega) | congr 1, by omega, by rw [Nat.pow_succ]; omega, hv5, hk5.1, hk5.2, by omega, HD.out, hbl5⟩
            case measure => simp [intOf]; omega
        · obtain rfl : j = n := by omega
          rw [Nat.sub_self, divL] at heq
          obtain ⟨e, he⟩ : ∃ e, e = (powQ ((la : Int) - ld) + 1074).toNat := ⟨_, rfl⟩
          have hpq := HPQ.out
          have he1 : e ≤ 4022 := by omega
          have hmx : max (((la : Int) - ld) - 52) (-1074) = (e : Int) - 1074 := by
            have h9 : powQ ((la : Int) - ld) = max (((la : Int) - ld) - 52) (-1074) := rfl
            omega
          have HRES : Hid (quotB A1 D1 ((la : Int) - ld) = min (roundQ D1 (A, c) + e * 4503599627370496) 9218868437227405312) := by
            show _ = _
            unfold quotB
            rw [if_neg hT, ← HNQ.out, ← heq, ← he]
          have HBL : Hid (Below w.heap.size w wr) := hbl
          have hc53 : c < 9007199254740992 := Nat.lt_of_lt_of_le hc2 (Nat.pow_le_pow_right (n := 2) (by decide) hn53)
          rw [hmx]
          clear hI hb1 hb2 hne heq hbl hA9 hlt hc2 hpq he hmx hT HPQ HNQ HLT
          rcases Nat.lt_trichotomy A D1 with h9 | h9 | h9
          · have hcg : cmpN A D1 = -1 := cmp_lt h9
            rw [hcg] at hcmp
            have HRQ : Hid (quotN A_ D = min (c + e * 4503599627370496) 9218868437227405312) := by
              show _ = _
              rw [HQ.out, HRES.out]
              unfold roundQ
              rw [if_neg (by omega)]
            clear hcg HRES HQ h9
            go_wp2_with (go_at_call 110; refine hcmp.mono ?_; clear hcmp; rintro e w3 ⟨rfl, q, rfl⟩)
            go_ret
            exact ⟨ret_u64 (by first | exact fin_c HRQ.out | exact fin_c1 HRQ.out), below_drewN HBL.out q⟩
          · have hcg : cmpN A D1 = 0 := by rw [h9]; exact cmp_eq _
            rw [hcg] at hcmp
            by_cases hp : c % 2 = 1
            · have HRQ : Hid (quotN A_ D = min ((c + 1) + e * 4503599627370496) 9218868437227405312) := by
                show _ = _
                rw [HQ.out, HRES.out]
                unfold roundQ
                rw [if_pos (Or.inr ⟨h9, hp⟩)]
              have hpI : (c : Int) % 2 = 1 := by omega
              clear hcg HRES HQ h9 hp
              go_wp2_with (go_at_call 110; refine hcmp.mono ?_; clear hcmp; rintro e w3 ⟨rfl, q, rfl⟩)
              go_ret
              exact ⟨ret_u64 (by first | exact fin_c HRQ.out | exact fin_c1 HRQ.out), below_drewN HBL.out q⟩
            · have HRQ : Hid (quotN A_ D = min (c + e * 4503599627370496) 9218868437227405312) := by
                show _ = _
                rw [HQ.out, HRES.out]
                unfold roundQ
                rw [if_neg (by simp only; omega)]
              have hpI : (c : Int) % 2 = 0 := by omega
              clear hcg HRES HQ h9 hp
              go_wp2_with (go_at_call 110; refine hcmp.mono ?_; clear hcmp; rintro e w3 ⟨rfl, q, rfl⟩)
              go_ret
              exact ⟨ret_u64 (by first | exact fin_c HRQ.out | exact fin_c1 HRQ.out), below_drewN HBL.out q⟩
          · have hcg : cmpN A D1 = 1 := cmp_gt h9
            rw [hcg] at hcmp
            have HRQ : Hid (quotN A_ D = min ((c + 1) + e * 4503599627370496) 9218868437227405312) := by
              show _ = _
              rw [HQ.out, HRES.out]
              unfold roundQ
              rw [if_pos (Or.inl h9)]
            clear hcg HRES HQ h9
            go_wp2_with (go_at_call 110; refine hcmp.mono ?_; clear hcmp; rintro e w3 ⟨rfl, q, rfl⟩)
            go_ret
            exact ⟨ret_u64 (by first | exact fin_c HRQ.out | exact fin_c1 HRQ.out), below_drewN HBL.out q⟩

end Go.Proofs.YtfckdleahljdeaaGreatDoor.Nu
