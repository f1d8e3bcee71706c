/- The law of repeats: walked. -/
import Derived.Test.YtmbkcmfcdjccoaaDoorMP85
namespace Go.Proofs.YtmbkcmfcdjccoaaDoor
open Go.RowKit Go.Maps

set_option maxRecDepth 100000 in
set_option maxHeartbeats 8000000 in
theorem repeatsLaw_any (B : Nat) (w : World) (s : ByteArray) (n0 m0 : Int) (la : Option Addr) (lc : Nat) (ss : List ByteArray) (hE : Env8 w B) (hB : B ≤ w.heap.size) (hS : TextsAt w (.slice la ss.length lc) ss) (hn0 : -9223372036854775808 ≤ n0 ∧ n0 ≤ 9223372036854775807) (hm0 : -9223372036854775808 ≤ m0 ∧ m0 ≤ 9223372036854775807) (hs0 : s.size ≤ maxLen) :
    Calls Tryd.prog 5 #[.agg #[.string s, .int .i64 n0, .int .i64 m0, .slice la ss.length lc]] w fun e w' => e = .returned (.bool true) ∧ Below w.heap.size w w' := by
  have HE := hide hE
  have HS := hide hS
  clear hE hS
  obtain ⟨m, hm⟩ : ∃ m, m = ss.length := ⟨_, rfl⟩
  have HM := hide hm
  rw [← hm] at HS ⊢
  clear hm
  have HEW : Hid (∀ W, Below w.heap.size w W → Env8 W B ∧ B ≤ W.heap.size) := fun W hW => ⟨HE.out.below (hW.mono hB), Nat.le_trans hB hW.size⟩
  have HWK : Hid (∀ W, Below w.heap.size w W → Calls Tryd.prog 8 #[] W fun e w' => e = .returned (.bool true) ∧ Below w.heap.size w w') := fun W hW => by
    refine (wakes_any B W (HEW.out W hW).1 (HEW.out W hW).2).mono ?_
    rintro e w' ⟨he, hb⟩
    exact ⟨he, hW.trans (hb.mono hW.size)⟩
  have HCO : Hid (∀ W s, Below w.heap.size w W → Calls Tryd.prog 10 #[.string s] W fun e w' => Below w.heap.size w w' ∧ Below W.heap.size W w' ∧ CmQ s e w') := fun W s hW => by
    refine (comp_mat B s W (HEW.out W hW).1 (HEW.out W hW).2).mono ?_
    rintro e w' ⟨hb, hq⟩
    exact ⟨hW.trans (hb.mono hW.size), hb, hq⟩
  have HCU : Hid (∀ W, Below w.heap.size w W → Calls Tryd.prog 13 #[.slice la m lc] W fun e w' => ∃ (X : List ByteArray) (a : Option Addr) (c : Nat), X.length ≤ 12 ∧ (∀ x ∈ X, x.size ≤ 60) ∧ e = .returned (.slice a X.length c) ∧ RowAt w' (.slice a X.length c) 1 X.length (txC X) ∧ Below W.heap.size W w') := fun W hW => by
    have h9 := HS.out
    rw [HM.out] at h9 ⊢
    refine Calls.mono (cut_any _ ss W (h9.below hW)) ?_
    rintro e w' ⟨a, c, h1, h2, h3⟩
    refine ⟨cutB ss, a, c, by unfold cutB; simp; omega, fun x hx => ?_, h1, RowAt.of_row h2, h3⟩
    obtain ⟨y, -, rfl⟩ := List.mem_map.1 hx
    exact clipB_size y
  have HB0 : Hid (Below w.heap.size w w) := Below.refl _ _
  have HBA : Hid (∀ W o, Below w.heap.size w W → Below w.heap.size w (W.alloc o)) := fun W o h => h.alloc h.size o
  unfold maxLen at hs0
  go_enter Tryd.func5, Tryd.ntmps5
  go_wp2_with fail
  go_quiet (fail)
  by_cases hsz : s.size ≤ 25
  · have hz : ¬ (25 : Int) < s.size := by omega
    have HBS : Hid (∀ o q, Below w.heap.size w ((w.alloc o).drewN q)) := fun o q => below_drewN ((Below.refl _ w).alloc (Nat.le_refl _) o) q
    by_cases hok : ∃ x g, compR s = .ok x g
    · obtain ⟨x, g, hx⟩ := hok
      obtain ⟨lo, hlo, hlo2⟩ : ∃ lo : Nat, n0 % 3 = lo ∧ lo ≤ 2 := ⟨(n0 % 3).toNat, by omega, by omega⟩
      obtain ⟨d, hd, hd2⟩ : ∃ d : Nat, m0 % 3 = d ∧ d ≤ 2 := ⟨(m0 % 3).toNat, by omega, by omega⟩
      have HWN : Hid (∀ W (n : Int) (r : Nat), n % 3 = r → (-9223372036854775808 ≤ n ∧ n ≤ 9223372036854775807) → Calls Tryd.prog 16 #[.int .i64 n, .int .i64 3] W fun e w' => e = .returned (.int .i64 r) ∧ w' = W) := fun W n r hr hn => by
        refine (keepWithin_any n 3 W (by decide) (by decide) hn.1 hn.2).mono ?_
        rintro e w' ⟨he, hw⟩
        exact ⟨by rw [he, hr], hw⟩
      have HCA : Hid (∀ W, Below w.heap.size w W → Calls Tryd.prog 10 #[.string s] W fun e w' => Below w.heap.size w w' ∧ ∃ p, e = .returned (.tuple #[.pointer (some ⟨p, 0, none⟩), .int .i64 0, .int .i64 0])) := fun W hW => by
        refine (HCO.out W s hW).mono ?_
        rintro e w' ⟨h1, h2, h3⟩
        obtain ⟨p, h4, h5⟩ := comp_good h3 hx
        exact ⟨h1, p, h4⟩
      go_upto_region 9 with (first
        | (go_at_call 10; refine (HCA.out _ (HBS.out _ _)).mono ?_; clear HCA; rintro e w1 ⟨hb1, p0, rfl⟩; have HB1 := hide hb1; clear hb1)
        | (go_at_call 16; refine (HWN.out _ _ _ (by assumption) (by assumption)).mono ?_; rintro e w2 ⟨rfl, hw2⟩; have hw2 := hw2.symm; subst hw2))
      have hlz : (lo : Int) ≤ 2 := by omega
      have hdz : (d : Int) ≤ 2 := by omega
      have hwl : IntKind.u8.wrap (48 + (lo : Int)) = 48 + lo := by simp only [IntKind.wrap_u8]; omega
      have hwh : IntKind.u8.wrap (48 + ((lo : Int) + d)) = 48 + (lo + d) := by simp only [IntKind.wrap_u8]; omega
      have hl3 : (⟨#[40, 63, 58]⟩ : ByteArray).size = 3 := rfl
      have hl1 : (⟨#[41]⟩ : ByteArray).size = 1 := rfl
      obtain ⟨b1, hb1⟩ : ∃ b, b = (48 + lo).toUInt8 := ⟨_, rfl⟩
      obtain ⟨b2, hb2⟩ : ∃ b, b = (48 + (lo + d)).toUInt8 := ⟨_, rfl⟩
      have hcv1 := conv_sign w1 lo (by omega) (48 + (lo : Int)) rfl _ rfl
      have hcv2 := conv_sign (w1.alloc (.cells #[.int .u8 (48 + (lo : Int))] 5)) lo (by omega) (48 + (lo : Int)) rfl (w1.heap.size + 1) (by simp)
      have hcv3 := conv_sign ((w1.alloc (.cells #[.int .u8 (48 + (lo : Int))] 5)).alloc (.cells #[.int .u8 (48 + (lo : Int))] 5)) (lo + d) (by omega) (48 + ((lo : Int) + d)) (by omega) (w1.heap.size + 1 + 1) (by simp)
      rw [← hb1] at hcv1 hcv2
      rw [← hb2] at hcv3
      have HBC := hide (bra_cells b1 b2 lo d hb1 hb2)
      clear hb1 hb2
      have hs1 : (⟨#[123]⟩ : ByteArray).size = 1 := rfl
      have hs2 : (⟨#[125]⟩ : ByteArray).size = 1 := rfl
      have hs3 : (⟨#[44]⟩ : ByteArray).size = 1 := rfl
      have hs4 : (⟨#[b1]⟩ : ByteArray).size = 1 := rfl
      have hs5 : (⟨#[b2]⟩ : ByteArray).size = 1 := rfl
      obtain ⟨hI, HI⟩ : ∃ hI : (⟨s, x, g⟩ : Itm).Ok, Hid ((⟨s, x, g⟩ : Itm).Ok) := ⟨hx, hx⟩
      clear hI
      obtain ⟨th, hth⟩ : ∃ th, th = (⟨#[40, 63, 58]⟩ : ByteArray) ++ s ++ (⟨#[41]⟩ : ByteArray) := ⟨_, rfl⟩
      have HTD : Hid (th.data.toList = itB ⟨s, x, g⟩) := by
        show _ = _
        rw [hth, add_data, add_data]
        simp [itB]
      have hths : th.size ≤ 29 := by rw [hth, ByteArray.size_append, ByteArray.size_append, hl3, hl1]; omega
      have HTH := hide hth.symm
      clear hth hx
      go_upto_region 12 with fail
      rw [HTH.out]
      clear hcv1 hcv2 hcv3 hs1 hs2 hs3 hs4 hs5 hl3 hl1 HWN
      have HBW : Hid (∀ o1 o2 o3 o4 o5 o6, Below w.heap.size w ((((((w1.alloc o1).alloc o2).alloc o3).alloc o4).alloc o5).alloc o6)) := fun o1 o2 o3 o4 o5 o6 => HBA.out _ _ (HBA.out _ _ (HBA.out _ _ (HBA.out _ _ (HBA.out _ _ (HBA.out _ _ HB1.out)))))
      go_upto_region 13 with (first
        | (go_at_call 13; refine (HCU.out _ (HBW.out _ _ _ _ _ _)).mono ?_; clear HCU; rintro e w7 ⟨X, xa, xc, hX12, hx60', rfl, hxr, hb7⟩; have HX := hide (And.intro hx60' hxr); have HAR := hide (fun k v4 v5 v6 => arr_cells hb7 k v4 v5 v6); have HB7 : Hid (Below w.heap.size w w7) := (HBW.out _ _ _ _ _ _).trans (hb7.mono (HBW.out _ _ _ _ _ _).size); clear hx60' hxr hb7))
      obtain ⟨n3, hn3⟩ : ∃ n, n = w1.heap.size + 1 + 1 + 1 := ⟨_, rfl⟩
      rw [← hn3] at HAR ⊢
      have HA : Hid (∀ k, k < 4 → w7.cell? ⟨n3, k, none⟩ = some (.string (braB k lo (lo + d))) ∧ w7.cell? ⟨n3 + 1, k, none⟩ = some (.int .i64 (frK k lo)) ∧ w7.cell? ⟨n3 + 1 + 1, k, none⟩ = some (.int .i64 (toK k lo (lo + d)))) := fun k hk => by
        obtain ⟨h4, h5, h6⟩ := HBC.out k hk
        exact HAR.out k _ _ _ h4 h5 h6
      have hn3b : n3 + 1 + 1 < w7.heap.size := (World.block_lt_of_cell? w7 _ (HA.out 0 (by decide)).2.2)
      clear HAR HBC HBW hn3
      obtain ⟨N, hNl⟩ : ∃ N, N = X.length := ⟨_, rfl⟩
      have hN12 : N ≤ 12 := by omega
      clear hX12
      have HNL := hide hNl
      have HX2 : Hid ((∀ x ∈ X, x.size ≤ 60) ∧ RowAt w7 (.slice xa N xc) 1 N (txC X)) := by
        have h9 := HX.out
        rw [← hNl] at h9
        exact h9
      rw [← hNl]
      clear hNl HX
      have HBZ : Hid (∀ W, Below w7.heap.size w7 W → Below w.heap.size w W) := fun W hW => HB7.out.trans (hW.mono HB7.out.size)
      go_wp2_with fail
      go_loopw [16] (fun kv wx => ∃ k : Nat, kv = .int .i64 k ∧ k ≤ 4 ∧ Hid (Below w7.heap.size w7 wx)) (fun kv _ => 4 - (intOf kv).toNat)
      case atStart => exact ⟨0, rfl, Nat.zero_le _, Below.refl _ _⟩
      case round =>
        obtain ⟨k, rfl, hk, HB⟩ := hrel
        by_cases hk4 : k < 4
        · have hkz : (k : Int) < 4 := by omega
          have hc := HA.out k hk4
          have HAW : Hid (∀ W, Below w7.heap.size w7 W → W.cell? ⟨n3, k, none⟩ = some (.string (braB k lo (lo + d))) ∧ W.cell? ⟨n3 + 1, k, none⟩ = some (.int .i64 (frK k lo)) ∧ W.cell? ⟨n3 + 1 + 1, k, none⟩ = some (.int .i64 (toK k lo (lo + d)))) := fun W hW =>
            ⟨(hW.cell (p := ⟨n3, k, none⟩) (by show n3 < _; omega)).trans hc.1, (hW.cell (p := ⟨n3 + 1, k, none⟩) (by show n3 + 1 < _; omega)).trans hc.2.1, (hW.cell (p := ⟨n3 + 1 + 1, k, none⟩) hn3b).trans hc.2.2⟩
          clear hc
          obtain ⟨hfr2, hup5, hfu⟩ := fr_up k lo d hk4 hlo2 hd2
          have hbks := braB_size k lo (lo + d)
          have hrep : Hid (∀ t : ByteArray, t = th ++ braB k lo (lo + d) → compR t = .large ∨ ∃ y g, compR t = .ok y g ∧ ∀ u, (k = 2 → u.size ≤ 5) → (matB y u = true ↔ ManyN x (frK k lo) (toK k lo (lo + d)) u)) := fun t ht =>
            rep_mat (I := ⟨s, x, g⟩) HI.out hsz hk4 (by omega) (by omega) (by omega) (by rw [ht, add_data, HTD.out, braB_data])
          have hrow : Hid (∀ t : ByteArray, t.data.toList = rowsB ⟨s, x, g⟩ (frK k lo) (toK k lo (lo + d) + 1 - frK k lo) → compR t = .large ∨ ∃ y g, compR t = .ok y g ∧ ∀ u, matB y u = true ↔ ManyN x (frK k lo) (toK k lo (lo + d)) u) := fun t ht =>
            rows_mat (I := ⟨s, x, g⟩) HI.out hfu ht
          generalize braB k lo (lo + d) = bk at *
          generalize frK k lo = fr at *
          generalize toK k lo (lo + d) = up at *
          have hle : ¬ 9223372036854775807 < th.size + bk.size := by omega
          obtain ⟨c1, c2, c3⟩ := HAW.out wr HB.out
          have HC1 : Hid (∀ W t, t = th ++ bk → Below w7.heap.size w7 W → Calls Tryd.prog 10 #[.string t] W fun e w' => Below w7.heap.size w7 w' ∧ ∃ v E, e = .returned (.tuple #[v, .int .i64 0, .int .i64 E]) ∧ LgQ (fun z => ∀ u, (k = 2 → u.size ≤ 5) → (matB z u = true ↔ ManyN x fr up u)) v E w') := fun W t ht hW => by
            refine (HCO.out W t (HBZ.out W hW)).mono ?_
            rintro e w' ⟨h1, h2, h3⟩
            exact ⟨hW.trans (h2.mono hW.size), comp_lg h3 (hrep.out t ht)⟩
          have HC2 : Hid (∀ W (t : ByteArray), t.data.toList = rowsB ⟨s, x, g⟩ fr (up + 1 - fr) → Below w7.heap.size w7 W → Calls Tryd.prog 10 #[.string t] W fun e w' => Below w7.heap.size w7 w' ∧ Below W.heap.size W w' ∧ ∃ v E, e = .returned (.tuple #[v, .int .i64 0, .int .i64 E]) ∧ LgQ (fun z => ∀ u, matB z u = true ↔ ManyN x fr up u) v E w') := fun W t ht hW => by
            refine (HCO.out W t (HBZ.out W hW)).mono ?_
            rintro e w' ⟨h1, h2, h3⟩
            exact ⟨hW.trans (h2.mono hW.size), h2, comp_lg h3 (hrow.out t ht)⟩
          clear hrep hrow
          go_upto_region 17 with (go_at_call 10; refine (HC1.out _ _ rfl HB.out).mono ?_; clear HC1; rintro e w8 ⟨hb8, v1, E1, rfl, hl1⟩; have HB8 := hide hb8; have HL1 := hide hl1; clear hb8 hl1)
          clear c1 c2 c3 HB
          obtain ⟨c1, c2, c3⟩ := HAW.out w8 HB8.out
          go_wp2_with fail
          go_loop [20, 21] (fun rv iv => ∃ (n : Nat) (r : ByteArray), rv = .string r ∧ iv = .int .i64 ((fr : Int) + n) ∧ n ≤ up + 1 - fr ∧ r.size ≤ n * 180 ∧ Hid (r.data.toList = rowsB ⟨s, x, g⟩ fr n)) (fun _ iv => up + 1 - (intOf iv).toNat)
          case atStart => exact ⟨0, ⟨#[]⟩, rfl, by simp, Nat.zero_le _, Nat.zero_le _, rfl⟩
          case round =>
            obtain ⟨n, r, rfl, rfl, hn, hr, HR⟩ := hrel
            by_cases hnu : fr + n ≤ up
            · have hnz : (fr : Int) + n ≤ up := by omega
              by_cases hn0 : n = 0
              · have hn0z : ¬ (fr : Int) < (fr : Int) + n := by omega
                have hr0 : Hid (r.data.toList = rowsB ⟨s, x, g⟩ fr n ++ [] ++ rowB (List.replicate 0 ⟨s, x, g⟩)) := by
                  show _ = _
                  rw [HR.out]
                  simp [rowB]
                go_wp2_with fail
                go_loop [20, 22] (fun rv jv => ∃ (j : Nat) (r2 : ByteArray), rv = .string r2 ∧ jv = .int .i64 j ∧ j ≤ fr + n ∧ r2.size ≤ n * 180 + 1 + j * 29 ∧ Hid (r2.data.toList = rowsB ⟨s, x, g⟩ fr n ++ [] ++ rowB (List.replicate j ⟨s, x, g⟩))) (fun _ jv => fr + n - (intOf jv).toNat)
                case atStart => exact ⟨0, _, rfl, rfl, Nat.zero_le _, by first | omega | (rw [ByteArray.size_append]; omega), hr0⟩
                case round =>
                  obtain ⟨j, r2, rfl, rfl, hj, hr2, HR2⟩ := hrel
                  by_cases hjl : j < fr + n
                  · have hjz : (j : Int) < (fr : Int) + n := by omega
                    have hle2 : ¬ 9223372036854775807 < r2.size + th.size := by omega
                    have hnew : Hid ((r2 ++ th).data.toList = rowsB ⟨s, x, g⟩ fr n ++ [] ++ rowB (List.replicate (j + 1) ⟨s, x, g⟩)) := by
                      show _ = _
                      rw [add_data, HR2.out, HTD.out, rowB_succ]
                      simp
                    go_wp2_with fail
                    go_round
                    case rel => exact ⟨j + 1, r2 ++ th, rfl, by go_num, by omega, by rw [ByteArray.size_append]; omega, hnew⟩
                    case measure => simp [intOf]; omega
                  · have hjz : ¬ (j : Int) < (fr : Int) + n := by omega
                    obtain rfl : j = fr + n := by omega
                    have hnew : Hid (r2.data.toList = rowsB ⟨s, x, g⟩ fr (n + 1)) := by
                      show _ = _
                      rw [HR2.out, rowsB_succ]
                      simp [hn0]
                    go_wp2_with fail
                    go_round
                    case rel => exact ⟨n + 1, r2, rfl, by go_num, by omega, by omega, hnew⟩
                    case measure => simp [intOf]; omega
              · have hn0z : (fr : Int) < (fr : Int) + n := by omega
                have hb1 : (⟨#[124]⟩ : ByteArray).size = 1 := rfl
                have hle3 : ¬ 9223372036854775807 < r.size + (⟨#[124]⟩ : ByteArray).size := by omega
                have hr0 : Hid ((r ++ (⟨#[124]⟩ : ByteArray)).data.toList = rowsB ⟨s, x, g⟩ fr n ++ [124] ++ rowB (List.replicate 0 ⟨s, x, g⟩)) := by
                  show _ = _
                  rw [add_data, HR.out]
                  simp [rowB]
                go_wp2_with fail
                go_loop [20, 22] (fun rv jv => ∃ (j : Nat) (r2 : ByteArray), rv = .string r2 ∧ jv = .int .i64 j ∧ j ≤ fr + n ∧ r2.size ≤ n * 180 + 1 + j * 29 ∧ Hid (r2.data.toList = rowsB ⟨s, x, g⟩ fr n ++ [124] ++ rowB (List.replicate j ⟨s, x, g⟩))) (fun _ jv => fr + n - (intOf jv).toNat)
                case atStart => exact ⟨0, _, rfl, rfl, Nat.zero_le _, by first | omega | (rw [ByteArray.size_append]; omega), hr0⟩
                case round =>
                  obtain ⟨j, r2, rfl, rfl, hj, hr2, HR2⟩ := hrel
                  by_cases hjl : j < fr + n
                  · have hjz : (j : Int) < (fr : Int) + n := by omega
                    have hle2 : ¬ 9223372036854775807 < r2.size + th.size := by omega
                    have hnew : Hid ((r2 ++ th).data.toList = rowsB ⟨s, x, g⟩ fr n ++ [124] ++ rowB (List.replicate (j + 1) ⟨s, x, g⟩)) := by
                      show _ = _
                      rw [add_data, HR2.out, HTD.out, rowB_succ]
                      simp
                    go_wp2_with fail
                    go_round
                    case rel => exact ⟨j + 1, r2 ++ th, rfl, by go_num, by omega, by rw [ByteArray.size_append]; omega, hnew⟩
                    case measure => simp [intOf]; omega
                  · have hjz : ¬ (j : Int) < (fr : Int) + n := by omega
                    obtain rfl : j = fr + n := by omega
                    have hnew : Hid (r2.data.toList = rowsB ⟨s, x, g⟩ fr (n + 1)) := by
                      show _ = _
                      rw [HR2.out, rowsB_succ]
                      simp [hn0]
                    go_wp2_with fail
                    go_round
                    case rel => exact ⟨n + 1, r2, rfl, by go_num, by omega, by omega, hnew⟩
                    case measure => simp [intOf]; omega
            · have hnz : ¬ (fr : Int) + n ≤ up := by omega
              have hnn : n = up + 1 - fr := by omega
              have HRW : Hid (r.data.toList = rowsB ⟨s, x, g⟩ fr (up + 1 - fr)) := by rw [← hnn]; exact HR
              clear HR hnn
              go_upto_region 28 with (go_at_call 10; refine (HC2.out _ _ HRW.out HB8.out).mono ?_; clear HC2; rintro e w9 ⟨hb9, hc9, v2, E2, rfl, hl2⟩; have HB9 := hide hb9; have HD9 := hide hc9; have HL2 := hide hl2; clear hb9 hc9 hl2)
              clear HRW c1 c2 c3
              rcases HL1.out with ⟨rfl, rfl⟩ | ⟨p1, y1, rfl, rfl, hm1, hr1⟩
              · go_wp2_with fail
                go_roundw
                case rel => exact ⟨k + 1, by go_num, by omega, HB9⟩
                case measure => simp [intOf]; omega
              · rcases HL2.out with ⟨rfl, rfl⟩ | ⟨p2, y2, rfl, rfl, hm2, hr2⟩
                · go_wp2_with fail
                  go_roundw
                  case rel => exact ⟨k + 1, by go_num, by omega, HB9⟩
                  case measure => simp [intOf]; omega
                · have HM1 := hide (hm1.below HD9.out)
                  have HM2 := hide hm2
                  have HRR : Hid (∀ u, (k = 2 → u.size ≤ 5) → matB y1 u = matB y2 u) := fun u hu => bool_ext ((hr1 u hu).trans (hr2 u).symm)
                  clear hm1 hm2 hr1 hr2 HL1 HL2
                  go_wp2_with fail
                  go_loopw [26] (fun iv wx => ∃ i : Nat, iv = .int .i64 i ∧ i ≤ N ∧ Hid (Below w9.heap.size w9 wx)) (fun iv _ => N - (intOf iv).toNat)
                  case atStart => exact ⟨0, rfl, Nat.zero_le _, Below.refl _ _⟩
                  case round =>
                    obtain ⟨i, rfl, hi, HBi⟩ := hrel
                    by_cases hil : i < N
                    · have hiX : i < X.length := by rw [← HNL.out]; exact hil
                      have hiz : (i : Int) < N := by omega
                      obtain ⟨xb, xo, rfl, hx1⟩ := HX2.out.2.one (j := i) (u := .string X[i]) (by unfold txC; rw [List.getElem?_map, List.getElem?_eq_getElem hiX]; rfl)
                      have HO : Hid (∀ W, Below w9.heap.size w9 W → W.cell? ⟨xb, xo + i, none⟩ = some (.string X[i]) ∧ Below w9.heap.size w9 W) := fun W hW => ⟨by have := hx1 W (HB9.out.trans (hW.mono HB9.out.size)); first | exact this | simpa using this, hW⟩
                      have hx6 := HX2.out.1 _ (List.getElem_mem hiX)
                      generalize X[i] = u at *
                      clear hx1
                      have q0 := (HO.out wr HBi.out).1
                      by_cases hk2 : k = 2
                      · subst hk2
                        by_cases hu5 : 5 < u.size
                        · have hu5z : (5 : Int) < u.size := by omega
                          go_wp2_with fail
                          go_roundw
                          case rel => exact ⟨i + 1, by go_num, by omega, HBi⟩
                          case measure => simp [intOf]; omega
                        · have hu5z : ¬ (5 : Int) < u.size := by omega
                          have hbb := HRR.out u (fun _ => by omega)
                          have hA1 : ∀ W, Cls w9 W → Calls Tryd.prog 12 #[.pointer (some ⟨p1, 0, none⟩), .string u] W fun e w' => e = .returned (.bool (matB y2 u)) ∧ Cls w9 w' := fun W hW => by
                            refine (HM1.out W u hW hx6).mono ?_
                            rintro e w' ⟨he, hb⟩
                            exact ⟨by rw [he, hbb], Below.trans hW (hb.mono (Below.size hW))⟩
                          have hA2 : ∀ W, Cls w9 W → Calls Tryd.prog 12 #[.pointer (some ⟨p2, 0, none⟩), .string u] W fun e w' => e = .returned (.bool (matB y2 u)) ∧ Cls w9 w' := fun W hW => by
                            refine (HM2.out W u hW hx6).mono ?_
                            rintro e w' ⟨he, hb⟩
                            exact ⟨he, Below.trans hW (hb.mono (Below.size hW))⟩
                          have hc0 : ∀ W, Cls w9 W → W.cell? ⟨xb, xo + i, none⟩ = some (.string u) := fun W hW => (HO.out W hW).1
                          have hbC := HBi.out.drew
                          clear hbb HRR HM1 HM2 HE HS HM HEW
                          generalize matB y2 u = M2 at *
                          go_upto_region 35 with fail
                          go_cut [172] from 160 to 172 (fun bv wx => bv = .bool false ∧ Hid (Below w9.heap.size w9 wx))
                          case first =>
                            refine wp_region_class (C := Cls w9) (by kernel_rfl) (by kernel_rfl) hbC ?_
                            go_big_quiet_step (exact fun _ => rfl)
                            go_big_quiet_step (exact fun _ => rfl)
                            go_big_quiet_step (exact fun _ => rfl)
                            go_big_quiet_step (exact fun _ => rfl)
                            go_big_quiet_step ((intro hw1; have q0 := hc0 _ hw1; go_simp; first | rfl | done))
                            go_big_quiet_step (exact fun hw1 => hA1 _ hw1)
                            go_big_quiet_step (exact fun _ => rfl)
                            go_big_quiet_step (exact fun _ => rfl)
                            go_big_quiet_step (exact fun _ => rfl)
                            go_big_quiet_step (exact fun _ => rfl)
                            go_big_quiet_step ((intro hw1; have q0 := hc0 _ hw1; go_simp; first | rfl | done))
                            go_big_quiet_step (exact fun hw1 => hA2 _ hw1)
                            go_big_quiet_step (exact fun _ => rfl)
                            refine wpQuiet_nil ?_
                            intro W8 hW8
                            go_wp2_with fail
                            go_meet
                            case rel => exact ⟨by simp, hW8⟩
                          case rest =>
                            clear HBi hbC hc0 hA1 hA2
                            obtain ⟨rfl, HBi⟩ := hcut
                            go_wp2_with fail
                            go_roundw
                            case rel => exact ⟨i + 1, by go_num, by omega, HBi⟩
                            case measure => simp [intOf]; omega
                      · have hk2z : ¬ (k : Int) = 2 := by omega
                        have hbb := HRR.out u (fun h => absurd h hk2)
                        have hA1 : ∀ W, Cls w9 W → Calls Tryd.prog 12 #[.pointer (some ⟨p1, 0, none⟩), .string u] W fun e w' => e = .returned (.bool (matB y2 u)) ∧ Cls w9 w' := fun W hW => by
                          refine (HM1.out W u hW hx6).mono ?_
                          rintro e w' ⟨he, hb⟩
                          exact ⟨by rw [he, hbb], Below.trans hW (hb.mono (Below.size hW))⟩
                        have hA2 : ∀ W, Cls w9 W → Calls Tryd.prog 12 #[.pointer (some ⟨p2, 0, none⟩), .string u] W fun e w' => e = .returned (.bool (matB y2 u)) ∧ Cls w9 w' := fun W hW => by
                          refine (HM2.out W u hW hx6).mono ?_
                          rintro e w' ⟨he, hb⟩
                          exact ⟨he, Below.trans hW (hb.mono (Below.size hW))⟩
                        have hc0 : ∀ W, Cls w9 W → W.cell? ⟨xb, xo + i, none⟩ = some (.string u) := fun W hW => (HO.out W hW).1
                        have hbC := HBi.out.drew
                        clear hbb HRR HM1 HM2 HE HS HM HEW
                        generalize matB y2 u = M2 at *
                        go_upto_region 35 with fail
                        go_cut [172] from 160 to 172 (fun bv wx => bv = .bool false ∧ Hid (Below w9.heap.size w9 wx))
                        case first =>
                          refine wp_region_class (C := Cls w9) (by kernel_rfl) (by kernel_rfl) hbC ?_
                          go_big_quiet_step (exact fun _ => rfl)
                          go_big_quiet_step (exact fun _ => rfl)
                          go_big_quiet_step (exact fun _ => rfl)
                          go_big_quiet_step (exact fun _ => rfl)
                          go_big_quiet_step ((intro hw1; have q0 := hc0 _ hw1; go_simp; first | rfl | done))
                          go_big_quiet_step (exact fun hw1 => hA1 _ hw1)
                          go_big_quiet_step (exact fun _ => rfl)
                          go_big_quiet_step (exact fun _ => rfl)
                          go_big_quiet_step (exact fun _ => rfl)
                          go_big_quiet_step (exact fun _ => rfl)
                          go_big_quiet_step ((intro hw1; have q0 := hc0 _ hw1; go_simp; first | rfl | done))
                          go_big_quiet_step (exact fun hw1 => hA2 _ hw1)
                          go_big_quiet_step (exact fun _ => rfl)
                          refine wpQuiet_nil ?_
                          intro W8 hW8
                          go_wp2_with fail
                          go_meet
                          case rel => exact ⟨by simp, hW8⟩
                        case rest =>
                          clear HBi hbC hc0 hA1 hA2
                          obtain ⟨rfl, HBi⟩ := hcut
                          go_wp2_with fail
                          go_roundw
                          case rel => exact ⟨i + 1, by go_num, by omega, HBi⟩
                          case measure => simp [intOf]; omega
                    · have hiz : ¬ (i : Int) < N := by omega
                      go_wp2_with fail
                      go_roundw
                      case rel => exact ⟨k + 1, by go_num, by omega, HB9.out.trans (HBi.out.mono HB9.out.size)⟩
                      case measure => simp [intOf]; omega
        · have hkz : ¬ (k : Int) < 4 := by omega
          have HW9 := hide (HWK.out wr (HBZ.out wr HB.out))
          clear HWK
          go_wp2_with (go_at_call 8; refine HW9.out.mono ?_; clear HW9; rintro e w9 ⟨rfl, hb9⟩; have HB9 := hide hb9; clear hb9)
          go_ret
          exact ⟨rfl, HB9.out⟩
    · have HCA : Hid (∀ W, Below w.heap.size w W → Calls Tryd.prog 10 #[.string s] W fun e w' => Below w.heap.size w w' ∧ ∃ i E : Int, e = .returned (.tuple #[.pointer none, .int .i64 i, .int .i64 E]) ∧ E ≠ 0) := fun W hW => by
        refine (HCO.out W s hW).mono ?_
        rintro e w' ⟨h1, h2, h3⟩
        exact ⟨h1, comp_bad h3 (fun x g e => hok ⟨x, g, e⟩)⟩
      go_wp2_with (first
        | (go_at_call 10; refine (HCA.out _ (HBS.out _ _)).mono ?_; clear HCA; rintro e w1 ⟨hb1, i1, E1, rfl, hE1⟩; have HB1 := hide hb1; clear hb1)
        | (go_at_call 8; refine (HWK.out _ HB1.out).mono ?_; clear HWK; rintro e w3 ⟨rfl, hb3⟩))
      go_ret
      exact ⟨rfl, hb3⟩
  · have hz : (25 : Int) < s.size := by omega
    go_wp2_with (go_at_call 8; refine (HWK.out _ (below_drewN (HBA.out _ _ HB0.out) _)).mono ?_; clear HWK; rintro e w3 ⟨rfl, hb3⟩)
    go_ret
    exact ⟨rfl, hb3⟩
end Go.Proofs.YtmbkcmfcdjccoaaDoor
