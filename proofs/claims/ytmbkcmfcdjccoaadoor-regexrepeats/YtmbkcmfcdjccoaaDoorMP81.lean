/- The law of alternatives and rows: walked. -/
import Derived.Test.YtmbkcmfcdjccoaaDoorMP55
import Derived.Deep.RegionHeld3
import Derived.BigQuiet
namespace Go.Proofs.YtmbkcmfcdjccoaaDoor
open Go.RowKit Go.Maps

theorem alg_data1 (a b : ByteArray) : ((((⟨#[40, 63, 58]⟩ : ByteArray) ++ a) ++ (⟨#[41, 124, 40, 63, 58]⟩ : ByteArray)) ++ b ++ (⟨#[41]⟩ : ByteArray)).data.toList = [40, 63, 58] ++ a.data.toList ++ [41, 124, 40, 63, 58] ++ b.data.toList ++ [41] := by simp
theorem alg_data2 (a b : ByteArray) : ((((⟨#[40, 63, 58]⟩ : ByteArray) ++ a) ++ (⟨#[41, 40, 63, 58]⟩ : ByteArray)) ++ b ++ (⟨#[41]⟩ : ByteArray)).data.toList = [40, 63, 58] ++ a.data.toList ++ [41, 40, 63, 58] ++ b.data.toList ++ [41] := by simp
set_option maxRecDepth 100000 in
set_option maxHeartbeats 16000000 in
theorem algebraLaw_any (B : Nat) (w : World) (a b : ByteArray) (la : Option Addr) (lc : Nat) (ss : List ByteArray) (hE : Env8 w B) (hB : B ≤ w.heap.size) (hS : TextsAt w (.slice la ss.length lc) ss) (ha0 : a.size ≤ maxLen) (hb0 : b.size ≤ maxLen) :
    Calls Tryd.prog 4 #[.string a, .string b, .slice la ss.length lc] w fun e w' => e = .returned (.bool true) ∧ Below w.heap.size w w' := by
  have HE := hide hE
  have HS := hide hS
  clear hE hS
  obtain ⟨m, hm⟩ : ∃ m, m = ss.length := ⟨_, rfl⟩
  have HM := hide hm
  rw [← hm] at HS ⊢
  clear hm
  have HEW : Hid (∀ W, Below w.heap.size w W → Env8 W B ∧ B ≤ W.heap.size) := fun W hW => ⟨HE.out.below (hW.mono hB), Nat.le_trans hB hW.size⟩
  have HWK : Hid (∀ W, Below w.heap.size w W → Calls Tryd.prog 8 #[] W fun e w' => e = .returned (.bool true) ∧ Below w.heap.size w w') := fun W hW => by
    refine (wakes_any B W (HEW.out W hW).1 (HEW.out W hW).2).mono ?_
    rintro e w' ⟨he, hb⟩
    exact ⟨he, hW.trans (hb.mono hW.size)⟩
  have HCO : Hid (∀ W s, Below w.heap.size w W → Calls Tryd.prog 10 #[.string s] W fun e w' => Below w.heap.size w w' ∧ Below W.heap.size W w' ∧ CmQ s e w') := fun W s hW => by
    refine (comp_mat B s W (HEW.out W hW).1 (HEW.out W hW).2).mono ?_
    rintro e w' ⟨hb, hq⟩
    exact ⟨hW.trans (hb.mono hW.size), hb, hq⟩
  have HCU : Hid (∀ W, Below w.heap.size w W → Calls Tryd.prog 13 #[.slice la m lc] W fun e w' => ∃ (X : List ByteArray) (a : Option Addr) (c : Nat), X.length ≤ 12 ∧ (∀ x ∈ X, x.size ≤ 60) ∧ e = .returned (.slice a X.length c) ∧ RowAt w' (.slice a X.length c) 1 X.length (txC X) ∧ Below W.heap.size W w') := fun W hW => by
    have h9 := HS.out
    rw [HM.out] at h9 ⊢
    refine Calls.mono (cut_any _ ss W (h9.below hW)) ?_
    rintro e w' ⟨a, c, h1, h2, h3⟩
    refine ⟨cutB ss, a, c, by unfold cutB; simp; omega, fun x hx => ?_, h1, RowAt.of_row h2, h3⟩
    obtain ⟨y, -, rfl⟩ := List.mem_map.1 hx
    exact clipB_size y
  unfold maxLen at ha0 hb0
  go_enter Tryd.func4, Tryd.ntmps4
  by_cases hsz : a.size ≤ 60 ∧ b.size ≤ 60
  · obtain ⟨hsa, hsb⟩ := hsz
    have hza : ¬ (60 : Int) < a.size := by omega
    have hzb : ¬ (60 : Int) < b.size := by omega
    by_cases hok : ∃ x y g h, compR a = .ok x g ∧ compR b = .ok y h
    · obtain ⟨x, y, g1, g2, hxa, hyb⟩ := hok
      obtain ⟨t1, ht1⟩ : ∃ t1, t1 = ((((⟨#[40, 63, 58]⟩ : ByteArray) ++ a) ++ (⟨#[41, 124, 40, 63, 58]⟩ : ByteArray)) ++ b ++ (⟨#[41]⟩ : ByteArray)) := ⟨_, rfl⟩
      obtain ⟨t2, ht2⟩ : ∃ t2, t2 = ((((⟨#[40, 63, 58]⟩ : ByteArray) ++ a) ++ (⟨#[41, 40, 63, 58]⟩ : ByteArray)) ++ b ++ (⟨#[41]⟩ : ByteArray)) := ⟨_, rfl⟩
      have hd1 : t1.data.toList = itB ⟨a, x, g1⟩ ++ 124 :: itB ⟨b, y, g2⟩ := by
        rw [ht1, alg_data1]
        simp [itB]
      have hd2 : t2.data.toList = itB ⟨a, x, g1⟩ ++ itB ⟨b, y, g2⟩ := by
        rw [ht2, alg_data2]
        simp [itB]
      have hl1 : t1.size ≤ 256 := by
        rw [Lib.size_eq, hd1, List.length_append, List.length_cons, itB_len, itB_len]
        dsimp only
        omega
      have hl2 : t2.size ≤ 256 := by
        rw [Lib.size_eq, hd2, List.length_append, itB_len, itB_len]
        dsimp only
        omega
      have HT := hide (And.intro ht1 ht2)
      have he := either_mat (t := t1) (A := ⟨a, x, g1⟩) (B := ⟨b, y, g2⟩) hxa hyb hl1 hd1
      have hb := both_mat (t := t2) (A := ⟨a, x, g1⟩) (B := ⟨b, y, g2⟩) hxa hyb hl2 hd2
      have HC1 : Hid (∀ W s, s = t1 → Below w.heap.size w W → Calls Tryd.prog 10 #[.string s] W fun e w' => Below w.heap.size w w' ∧ Below W.heap.size W w' ∧ ∃ v E, e = .returned (.tuple #[v, .int .i64 0, .int .i64 E]) ∧ LgQ (fun z => ∀ u, matB z u = (matB x u || matB y u)) v E w') := fun W s hs hW => by
        subst hs
        refine (HCO.out W s hW).mono ?_
        rintro e w' ⟨h1, h2, h3⟩
        exact ⟨h1, h2, comp_lg h3 he⟩
      have HC2 : Hid (∀ W s, s = t2 → Below w.heap.size w W → Calls Tryd.prog 10 #[.string s] W fun e w' => Below w.heap.size w w' ∧ Below W.heap.size W w' ∧ ∃ v E, e = .returned (.tuple #[v, .int .i64 0, .int .i64 E]) ∧ LgQ (fun z => anchB a = false → anchB b = false → ∀ u, matB z u = true ↔ CutP x y u) v E w') := fun W s hs hW => by
        subst hs
        refine (HCO.out W s hW).mono ?_
        rintro e w' ⟨h1, h2, h3⟩
        exact ⟨h1, h2, comp_lg h3 hb⟩
      have HCA : Hid (∀ W, Below w.heap.size w W → Calls Tryd.prog 10 #[.string a] W fun e w' => Below w.heap.size w w' ∧ Below W.heap.size W w' ∧ ∃ p, e = .returned (.tuple #[.pointer (some ⟨p, 0, none⟩), .int .i64 0, .int .i64 0]) ∧ MatS w' p x) := fun W hW => by
        refine (HCO.out W a hW).mono ?_
        rintro e w' ⟨h1, h2, h3⟩
        exact ⟨h1, h2, comp_good h3 hxa⟩
      have HCB : Hid (∀ W, Below w.heap.size w W → Calls Tryd.prog 10 #[.string b] W fun e w' => Below w.heap.size w w' ∧ Below W.heap.size W w' ∧ ∃ p, e = .returned (.tuple #[.pointer (some ⟨p, 0, none⟩), .int .i64 0, .int .i64 0]) ∧ MatS w' p y) := fun W hW => by
        refine (HCO.out W b hW).mono ?_
        rintro e w' ⟨h1, h2, h3⟩
        exact ⟨h1, h2, comp_good h3 hyb⟩
      clear hxa hyb ht1 ht2 hd1 hd2 hl1 hl2 he hb HCO
      go_upto_region 7 with (first
        | (go_at_call 10; refine (HCA.out _ (Below.refl _ _)).mono ?_; clear HCA; rintro e w1 ⟨hb1, -, p, rfl, hp⟩; have HB1 := hide hb1; have HP := hide hp; clear hb1 hp)
        | (go_at_call 10; refine (HCB.out _ HB1.out).mono ?_; clear HCB; rintro e w2 ⟨hb2, hc2, q, rfl, hq⟩; have HB2 := hide hb2; have HQ := hide hq; have HP2 := hide (HP.out.below hc2); clear HP hb2 hc2 hq))
      go_upto_region 9 with (first
        | (go_at_call 10; refine (HC1.out _ _ HT.out.1.symm HB2.out).mono ?_; clear HC1; rintro e w3 ⟨hb3, hc3, v1, E1, rfl, hl3⟩; have HB3 := hide hb3; have HL1 := hide hl3; have HD3 := hide hc3; clear hb3 hc3 hl3)
        | (go_at_call 10; refine (HC2.out _ _ HT.out.2.symm HB3.out).mono ?_; clear HC2; rintro e w4 ⟨hb4, hc4, v2, E2, rfl, hl4⟩; have HB4 := hide hb4; have HL2 := hide hl4; have HD4 := hide hc4; clear hb4 hc4 hl4))
      clear HT
      go_cut [99] from 86 to 99 (fun bv wx => bv = .bool false ∧ wx = w4)
      case first =>
        rcases HL1.out with ⟨rfl, rfl⟩ | ⟨p1, x1, rfl, rfl, -, -⟩
        · rcases HL2.out with ⟨rfl, rfl⟩ | ⟨p2, x2, rfl, rfl, -, -⟩
          · go_wp2_with fail
            go_meet
            case rel => exact ⟨rfl, rfl⟩
          · go_wp2_with fail
            go_meet
            case rel => exact ⟨rfl, rfl⟩
        · rcases HL2.out with ⟨rfl, rfl⟩ | ⟨p2, x2, rfl, rfl, -, -⟩
          · go_wp2_with fail
            go_meet
            case rel => exact ⟨rfl, rfl⟩
          · go_wp2_with fail
            go_meet
            case rel => exact ⟨rfl, rfl⟩
      case rest =>
        obtain ⟨rfl, hwx⟩ := hcut
        subst hwx
        have HMA := hide ((HP2.out.below HD3.out).below HD4.out)
        have HMB := hide ((HQ.out.below HD3.out).below HD4.out)
        have HMD := hide HD4.out
        clear HP2 HQ
        go_wp2_with (go_at_call 13; refine (HCU.out _ HB4.out).mono ?_; clear HCU; rintro e w7 ⟨X, xa, xc, hX12, hx60', rfl, hxr, hb7⟩; have HX := hide (And.intro hx60' hxr); have HB7 := hide hb7; clear hx60' hxr hb7)
        obtain ⟨N, hNl⟩ : ∃ N, N = X.length := ⟨_, rfl⟩
        have hN12 : N ≤ 12 := by omega
        clear hX12
        have HNL := hide hNl
        have HX2 : Hid ((∀ x ∈ X, x.size ≤ 60) ∧ RowAt w7 (.slice xa N xc) 1 N (txC X)) := by
          have h9 := HX.out
          rw [← hNl] at h9
          exact h9
        rw [← hNl]
        clear hNl HX
        go_loopw [19] (fun kv wx => ∃ k : Nat, kv = .int .i64 k ∧ k ≤ N ∧ Hid (Below w7.heap.size w7 wx)) (fun kv _ => N - (intOf kv).toNat)
        case atStart => exact ⟨0, rfl, Nat.zero_le _, Below.refl _ _⟩
        case round =>
          obtain ⟨k, rfl, hk, HB⟩ := hrel
          by_cases hkl : k < N
          · have hkX : k < X.length := by rw [← HNL.out]; exact hkl
            have hkz : (k : Int) < N := by omega
            obtain ⟨xb, xo, rfl, hx1⟩ := HX2.out.2.one (j := k) (u := .string X[k]) (by unfold txC; rw [List.getElem?_map, List.getElem?_eq_getElem hkX]; rfl)
            have HO : Hid (∀ W, Below w7.heap.size w7 W → W.cell? ⟨xb, xo + k, none⟩ = some (.string X[k]) ∧ Below w7.heap.size w7 W) := fun W hW => ⟨by have := hx1 W hW; first | exact this | simpa using this, hW⟩
            have hx6 := HX2.out.1 _ (List.getElem_mem hkX)
            generalize X[k] = u at *
            clear hx1
            have c0 := (HO.out wr HB.out).1
            have HWA : Hid (∀ W, Below w7.heap.size w7 W → Calls Tryd.prog 12 #[.pointer (some ⟨p, 0, none⟩), .string u] W fun e w' => e = .returned (.bool (matB x u)) ∧ Below w7.heap.size w7 w') := fun W hW => by
              refine ((HMA.out.below HB7.out) W u hW hx6).mono ?_
              rintro e w' ⟨he, hb⟩
              exact ⟨he, hW.trans (hb.mono hW.size)⟩
            have HWB : Hid (∀ W, Below w7.heap.size w7 W → Calls Tryd.prog 12 #[.pointer (some ⟨q, 0, none⟩), .string u] W fun e w' => e = .returned (.bool (matB y u)) ∧ Below w7.heap.size w7 w') := fun W hW => by
              refine ((HMB.out.below HB7.out) W u hW hx6).mono ?_
              rintro e w' ⟨he, hb⟩
              exact ⟨he, hW.trans (hb.mono hW.size)⟩
            have HWC : Hid (∀ W, Below w7.heap.size w7 W → Calls Tryd.prog 15 #[.pointer (some ⟨p, 0, none⟩), .pointer (some ⟨q, 0, none⟩), .string u] W fun e w' => ∃ b, e = .returned (.bool b) ∧ (b = true ↔ CutP x y u) ∧ Below w7.heap.size w7 w') := fun W hW => by
              refine (cuts_any p q x y u W hx6 (hide ((HMA.out.below HB7.out).below hW)) (hide ((HMB.out.below HB7.out).below hW))).mono ?_
              rintro e w' ⟨b, he, hc, hb⟩
              exact ⟨b, he, hc, hW.trans (hb.mono hW.size)⟩
            have HL1' : Hid (LgQ (fun z => ∀ u, matB z u = (matB x u || matB y u)) v1 E1 w7) := by
              rcases HL1.out with h9 | ⟨p1, x1, h1, h2, h3, h4⟩
              · exact Or.inl h9
              · exact Or.inr ⟨p1, x1, h1, h2, (h3.below HMD.out).below HB7.out, h4⟩
            have HL2' : Hid (LgQ (fun z => anchB a = false → anchB b = false → ∀ u, matB z u = true ↔ CutP x y u) v2 E2 w7) := by
              rcases HL2.out with h9 | ⟨p1, x1, h1, h2, h3, h4⟩
              · exact Or.inl h9
              · exact Or.inr ⟨p1, x1, h1, h2, h3.below HB7.out, h4⟩
            have HAA : Hid (∀ W, Calls Tryd.prog 14 #[.string a] W fun e w' => e = .returned (.bool (anchB a)) ∧ w' = W) := fun W => anchored_any a W hsa
            have HAB : Hid (∀ W, Calls Tryd.prog 14 #[.string b] W fun e w' => e = .returned (.bool (anchB b)) ∧ w' = W) := fun W => anchored_any b W hsb
            clear HWK HMA HMB HL1 HL2 HX2
            go_upto_region 15 with fail
            go_cut [132] from 108 to 132 (fun bv wx => bv = .bool false ∧ Hid (Below w7.heap.size w7 wx))
            case first =>
              clear HWC HL2' HAA HAB
              rcases HL1'.out with ⟨rfl, rfl⟩ | ⟨p1, x1, rfl, rfl, hm1, hr1⟩
              · clear HWA HWB
                go_quiet (fail)
                go_wp2_with fail
                go_meet
                case rel => exact ⟨rfl, below_drewN HB.out _⟩
              · have HW1 : Hid (∀ W, Below w7.heap.size w7 W → Calls Tryd.prog 12 #[.pointer (some ⟨p1, 0, none⟩), .string u] W fun e w' => e = .returned (.bool (matB x u || matB y u)) ∧ Below w7.heap.size w7 w') := fun W hW => by
                  refine (hm1 W u hW hx6).mono ?_
                  rintro e w' ⟨he, hb⟩
                  exact ⟨by rw [he, hr1 u], hW.trans (hb.mono hW.size)⟩
                have hd : Below w7.heap.size w7 wr.drew := HB.out.drew
                clear hm1 hr1 HL1'
                clear HE HS HM HEW HNL
                have hkeep : True := trivial
                have HWX : Hid (∀ (W : World) (pp : Nat) (r : Bool), ((pp = p1 ∧ r = (matB x u || matB y u)) ∨ (pp = p ∧ r = matB x u) ∨ (pp = q ∧ r = matB y u)) → Below w7.heap.size w7 W → Calls Tryd.prog 12 #[.pointer (some ⟨pp, 0, none⟩), .string u] W fun e w' => e = .returned (.bool r) ∧ Below w7.heap.size w7 w') := by
                  rintro W pp r (⟨rfl, rfl⟩ | ⟨rfl, rfl⟩ | ⟨rfl, rfl⟩) hW
                  · exact HW1.out W hW
                  · exact HWA.out W hW
                  · exact HWB.out W hW
                clear HW1 HWA HWB
                generalize matB y u = Mb at *
                have hc0 : ∀ W, Cls w7 W → W.cell? ⟨xb, xo + k, none⟩ = some (.string u) := fun W hW => (HO.out W hW).1
                have hbC : Cls w7 wr.drew := hd
                clear hd HB c0
                cases hMa : matB x u with
                | true =>
                  rw [hMa, Bool.true_or] at HWX
                  refine wp_region_class (C := Cls w7) (by kernel_rfl) (by kernel_rfl) hbC ?_
                  go_big_quiet_step (exact fun _ => rfl)
                  go_big_quiet_step (exact fun _ => rfl)
                  go_big_quiet_step (exact fun _ => rfl)
                  go_big_quiet_step (exact fun _ => rfl)
                  go_big_quiet_step (exact fun _ => rfl)
                  go_big_quiet_step (exact fun _ => rfl)
                  go_big_quiet_step (exact fun _ => rfl)
                  go_big_quiet_step ((intro hw1; have q0 := hc0 _ hw1; go_simp; first | rfl | done))
                  go_big_quiet_step (exact fun hw1 => HWX.out _ p1 true (Or.inl ⟨rfl, rfl⟩) hw1)
                  go_big_quiet_step (exact fun _ => rfl)
                  go_big_quiet_step (exact fun _ => rfl)
                  go_big_quiet_step (exact fun _ => rfl)
                  go_big_quiet_step (exact fun _ => rfl)
                  go_big_quiet_step ((intro hw1; have q0 := hc0 _ hw1; go_simp; first | rfl | done))
                  go_big_quiet_step (exact fun hw1 => HWX.out _ p true (Or.inr (Or.inl ⟨rfl, rfl⟩)) hw1)
                  go_big_quiet_step (exact fun _ => rfl)
                  go_big_quiet_skip
                  go_big_quiet_skip
                  go_big_quiet_skip
                  go_big_quiet_skip
                  go_big_quiet_skip
                  go_big_quiet_skip
                  go_big_quiet_step (exact fun _ => rfl)
                  go_big_quiet_step (exact fun _ => rfl)
                  go_big_quiet_step (exact fun _ => rfl)
                  refine wpQuiet_nil ?_
                  intro W8 hW8
                  go_wp2_with fail
                  go_meet
                  case rel => exact ⟨rfl, hW8⟩
                | false =>
                  rw [hMa, Bool.false_or] at HWX
                  refine wp_region_class (C := Cls w7) (by kernel_rfl) (by kernel_rfl) hbC ?_
                  go_big_quiet_step (exact fun _ => rfl)
                  go_big_quiet_step (exact fun _ => rfl)
                  go_big_quiet_step (exact fun _ => rfl)
                  go_big_quiet_step (exact fun _ => rfl)
                  go_big_quiet_step (exact fun _ => rfl)
                  go_big_quiet_step (exact fun _ => rfl)
                  go_big_quiet_step (exact fun _ => rfl)
                  go_big_quiet_step ((intro hw1; have q0 := hc0 _ hw1; go_simp; first | rfl | done))
                  go_big_quiet_step (exact fun hw1 => HWX.out _ p1 Mb (Or.inl ⟨rfl, rfl⟩) hw1)
                  go_big_quiet_step (exact fun _ => rfl)
                  go_big_quiet_step (exact fun _ => rfl)
                  go_big_quiet_step (exact fun _ => rfl)
                  go_big_quiet_step (exact fun _ => rfl)
                  go_big_quiet_step ((intro hw1; have q0 := hc0 _ hw1; go_simp; first | rfl | done))
                  go_big_quiet_step (exact fun hw1 => HWX.out _ p false (Or.inr (Or.inl ⟨rfl, rfl⟩)) hw1)
                  go_big_quiet_step (exact fun _ => rfl)
                  go_big_quiet_step (exact fun _ => rfl)
                  go_big_quiet_step (exact fun _ => rfl)
                  go_big_quiet_step (exact fun _ => rfl)
                  go_big_quiet_step (exact fun _ => rfl)
                  go_big_quiet_step ((intro hw1; have q0 := hc0 _ hw1; go_simp; first | rfl | done))
                  go_big_quiet_step (exact fun hw1 => HWX.out _ q Mb (Or.inr (Or.inr ⟨rfl, rfl⟩)) hw1)
                  go_big_quiet_step (exact fun _ => rfl)
                  go_big_quiet_step (exact fun _ => rfl)
                  go_big_quiet_step (exact fun _ => rfl)
                  refine wpQuiet_nil ?_
                  intro W8 hW8
                  go_wp2_with fail
                  go_meet
                  case rel => exact ⟨by simp, hW8⟩
            case rest =>
              clear HB c0 HL1'
              obtain ⟨rfl, HB⟩ := hcut
              have hc0 : ∀ W, Cls w7 W → W.cell? ⟨xb, xo + k, none⟩ = some (.string u) := fun W hW => (HO.out W hW).1
              have hbC := HB.out.drew
              go_upto_region 17 with fail
              go_cut [160] from 133 to 160 (fun bv wx => bv = .bool false ∧ Hid (Below w7.heap.size w7 wx))
              case first =>
                rcases HL2'.out with ⟨rfl, rfl⟩ | ⟨p2, x2, rfl, rfl, hm2, hr2⟩
                · clear HWA HWB HWC HAA HAB
                  go_quiet (fail)
                  go_wp2_with fail
                  go_meet
                  case rel => exact ⟨rfl, below_drewN HB.out _⟩
                · clear HWA HWB HL2' HE HS HM HEW HNL
                  cases hAa : anchB a with
                  | true =>
                    have hA1 : ∀ W, Cls w7 W → Calls Tryd.prog 14 #[.string a] W fun e w' => e = .returned (.bool true) ∧ Cls w7 w' := fun W hW => by
                      rw [hAa] at HAA
                      refine (HAA.out W).mono ?_
                      rintro e w' ⟨he, hw⟩
                      exact ⟨he, by rw [hw]; exact hW⟩
                    clear HWC HAA HAB hm2 hr2 HB
                    refine wp_region_class (C := Cls w7) (by kernel_rfl) (by kernel_rfl) hbC ?_
                    go_big_quiet_step (exact fun _ => rfl)
                    go_big_quiet_step (exact fun _ => rfl)
                    go_big_quiet_step (exact fun _ => rfl)
                    go_big_quiet_step (exact fun _ => rfl)
                    go_big_quiet_step (exact fun hw1 => hA1 _ hw1)
                    go_big_quiet_step (exact fun _ => rfl)
                    go_big_quiet_step (exact fun _ => rfl)
                    go_big_quiet_step (exact fun _ => rfl)
                    go_big_quiet_skip
                    go_big_quiet_skip
                    go_big_quiet_skip
                    go_big_quiet_step (exact fun _ => rfl)
                    go_big_quiet_step (exact fun _ => rfl)
                    go_big_quiet_skip
                    go_big_quiet_skip
                    go_big_quiet_skip
                    go_big_quiet_skip
                    go_big_quiet_skip
                    go_big_quiet_skip
                    go_big_quiet_skip
                    go_big_quiet_skip
                    go_big_quiet_skip
                    go_big_quiet_skip
                    go_big_quiet_skip
                    go_big_quiet_skip
                    go_big_quiet_skip
                    go_big_quiet_skip
                    go_big_quiet_step (exact fun _ => rfl)
                    refine wpQuiet_nil ?_
                    intro W8 hW8
                    go_wp2_with fail
                    go_meet
                    case rel => exact ⟨rfl, hW8⟩
                  | false =>
                    have hA1 : ∀ W, Cls w7 W → Calls Tryd.prog 14 #[.string a] W fun e w' => e = .returned (.bool false) ∧ Cls w7 w' := fun W hW => by
                      rw [hAa] at HAA
                      refine (HAA.out W).mono ?_
                      rintro e w' ⟨he, hw⟩
                      exact ⟨he, by rw [hw]; exact hW⟩
                    cases hAb : anchB b with
                    | true =>
                      have hA2 : ∀ W, Cls w7 W → Calls Tryd.prog 14 #[.string b] W fun e w' => e = .returned (.bool true) ∧ Cls w7 w' := fun W hW => by
                        rw [hAb] at HAB
                        refine (HAB.out W).mono ?_
                        rintro e w' ⟨he, hw⟩
                        exact ⟨he, by rw [hw]; exact hW⟩
                      clear HWC HAA HAB hm2 hr2 HB
                      refine wp_region_class (C := Cls w7) (by kernel_rfl) (by kernel_rfl) hbC ?_
                      go_big_quiet_step (exact fun _ => rfl)
                      go_big_quiet_step (exact fun _ => rfl)
                      go_big_quiet_step (exact fun _ => rfl)
                      go_big_quiet_step (exact fun _ => rfl)
                      go_big_quiet_step (exact fun hw1 => hA1 _ hw1)
                      go_big_quiet_step (exact fun _ => rfl)
                      go_big_quiet_step (exact fun _ => rfl)
                      go_big_quiet_step (exact fun _ => rfl)
                      go_big_quiet_step (exact fun _ => rfl)
                      go_big_quiet_step (exact fun hw1 => hA2 _ hw1)
                      go_big_quiet_step (exact fun _ => rfl)
                      go_big_quiet_step (exact fun _ => rfl)
                      go_big_quiet_step (exact fun _ => rfl)
                      go_big_quiet_skip
                      go_big_quiet_skip
                      go_big_quiet_skip
                      go_big_quiet_skip
                      go_big_quiet_skip
                      go_big_quiet_skip
                      go_big_quiet_skip
                      go_big_quiet_skip
                      go_big_quiet_skip
                      go_big_quiet_skip
                      go_big_quiet_skip
                      go_big_quiet_skip
                      go_big_quiet_skip
                      go_big_quiet_skip
                      go_big_quiet_step (exact fun _ => rfl)
                      refine wpQuiet_nil ?_
                      intro W8 hW8
                      go_wp2_with fail
                      go_meet
                      case rel => exact ⟨rfl, hW8⟩
                    | false =>
                      have hA2 : ∀ W, Cls w7 W → Calls Tryd.prog 14 #[.string b] W fun e w' => e = .returned (.bool false) ∧ Cls w7 w' := fun W hW => by
                        rw [hAb] at HAB
                        refine (HAB.out W).mono ?_
                        rintro e w' ⟨he, hw⟩
                        exact ⟨he, by rw [hw]; exact hW⟩
                      have hr3 := hr2 hAa hAb u
                      have hA3 : ∀ W, Cls w7 W → Calls Tryd.prog 12 #[.pointer (some ⟨p2, 0, none⟩), .string u] W fun e w' => e = .returned (.bool (matB x2 u)) ∧ Cls w7 w' := fun W hW => by
                        refine (hm2 W u hW hx6).mono ?_
                        rintro e w' ⟨he, hb⟩
                        exact ⟨he, Below.trans hW (hb.mono (Below.size hW))⟩
                      have hA4 : ∀ W, Cls w7 W → Calls Tryd.prog 15 #[.pointer (some ⟨p, 0, none⟩), .pointer (some ⟨q, 0, none⟩), .string u] W fun e w' => e = .returned (.bool (matB x2 u)) ∧ Cls w7 w' := fun W hW => by
                        refine (HWC.out W hW).mono ?_
                        rintro e w' ⟨b, he, hc, hb⟩
                        have : b = matB x2 u := bool_ext (hc.trans hr3.symm)
                        exact ⟨by rw [he, this], hb⟩
                      clear HWC HAA HAB hm2 hr2 HB hr3
                      generalize matB x2 u = M2 at *
                      refine wp_region_class (C := Cls w7) (by kernel_rfl) (by kernel_rfl) hbC ?_
                      go_big_quiet_step (exact fun _ => rfl)
                      go_big_quiet_step (exact fun _ => rfl)
                      go_big_quiet_step (exact fun _ => rfl)
                      go_big_quiet_step (exact fun _ => rfl)
                      go_big_quiet_step (exact fun hw1 => hA1 _ hw1)
                      go_big_quiet_step (exact fun _ => rfl)
                      go_big_quiet_step (exact fun _ => rfl)
                      go_big_quiet_step (exact fun _ => rfl)
                      go_big_quiet_step (exact fun _ => rfl)
                      go_big_quiet_step (exact fun hw1 => hA2 _ hw1)
                      go_big_quiet_step (exact fun _ => rfl)
                      go_big_quiet_step (exact fun _ => rfl)
                      go_big_quiet_step (exact fun _ => rfl)
                      go_big_quiet_step (exact fun _ => rfl)
                      go_big_quiet_step (exact fun _ => rfl)
                      go_big_quiet_step (exact fun _ => rfl)
                      go_big_quiet_step (exact fun _ => rfl)
                      go_big_quiet_step ((intro hw1; have q0 := hc0 _ hw1; go_simp; first | rfl | done))
                      go_big_quiet_step (exact fun hw1 => hA3 _ hw1)
                      go_big_quiet_step (exact fun _ => rfl)
                      go_big_quiet_step (exact fun _ => rfl)
                      go_big_quiet_step (exact fun _ => rfl)
                      go_big_quiet_step (exact fun _ => rfl)
                      go_big_quiet_step (exact fun _ => rfl)
                      go_big_quiet_step ((intro hw1; have q0 := hc0 _ hw1; go_simp; first | rfl | done))
                      go_big_quiet_step (exact fun hw1 => hA4 _ hw1)
                      go_big_quiet_step (exact fun _ => rfl)
                      go_big_quiet_step (exact fun _ => rfl)
                      refine wpQuiet_nil ?_
                      intro W8 hW8
                      go_wp2_with fail
                      go_meet
                      case rel => exact ⟨by simp, hW8⟩
              case rest =>
                clear HB hc0 hbC
                obtain ⟨rfl, HB⟩ := hcut
                go_wp2_with fail
                go_roundw
                case rel => exact ⟨k + 1, by go_num, by omega, HB⟩
                case measure => simp [intOf]; omega
          · have hkz : ¬ (k : Int) < N := by omega
            have HW9 := hide (HWK.out wr (HB4.out.trans ((HB7.out.trans (HB.out.mono HB7.out.size)).mono HB4.out.size)))
            clear HWK HMA HMB HL1 HL2
            go_wp2_with (go_at_call 8; refine HW9.out.mono ?_; clear HW9; rintro e w9 ⟨rfl, hb9⟩; have HB9 := hide hb9; clear hb9)
            go_ret
            exact ⟨rfl, HB9.out⟩
    · have hbad : (∀ x g, compR a ≠ .ok x g) ∨ (∃ x g, compR a = .ok x g) ∧ ∀ y h, compR b ≠ .ok y h := by
        by_cases h1 : ∃ x g, compR a = .ok x g
        · refine Or.inr ⟨h1, fun y h e => ?_⟩
          obtain ⟨x, g, h1⟩ := h1
          exact hok ⟨x, y, g, h, h1, e⟩
        · exact Or.inl fun x g e => h1 ⟨x, g, e⟩
      rcases hbad with hna | ⟨⟨x, g, hxa⟩, hnb⟩
      · have HCA : Hid (∀ W, Below w.heap.size w W → Calls Tryd.prog 10 #[.string a] W fun e w' => Below w.heap.size w w' ∧ ∃ i E : Int, e = .returned (.tuple #[.pointer none, .int .i64 i, .int .i64 E]) ∧ E ≠ 0) := fun W hW => by
          refine (HCO.out W a hW).mono ?_
          rintro e w' ⟨h1, h2, h3⟩
          exact ⟨h1, comp_bad h3 hna⟩
        have HCB : Hid (∀ W, Below w.heap.size w W → Calls Tryd.prog 10 #[.string b] W fun e w' => Below w.heap.size w w' ∧ ∃ v1 v2 : Value, ∃ E : Int, e = .returned (.tuple #[v1, v2, .int .i64 E])) := fun W hW => by
          refine (HCO.out W b hW).mono ?_
          rintro e w' ⟨h1, h2, h3⟩
          exact ⟨h1, comp_some h3⟩
        clear hna hok HCO HCU
        go_wp2_with (first
          | (go_at_call 10; refine (HCA.out _ (Below.refl _ _)).mono ?_; clear HCA; rintro e w1 ⟨hb1, i1, E1, rfl, hE1⟩; have HB1 := hide hb1; clear hb1)
          | (go_at_call 10; refine (HCB.out _ HB1.out).mono ?_; clear HCB; rintro e w2 ⟨hb2, v1, v2, E2, rfl⟩; have HB2 := hide hb2; clear hb2)
          | (go_at_call 8; refine (HWK.out _ HB2.out).mono ?_; clear HWK; rintro e w3 ⟨rfl, hb3⟩))
        all_goals
          go_ret
          exact ⟨ret_bool (by first | rfl | simpa using hE1), hb3⟩
      · have HCA : Hid (∀ W, Below w.heap.size w W → Calls Tryd.prog 10 #[.string a] W fun e w' => Below w.heap.size w w' ∧ ∃ p, e = .returned (.tuple #[.pointer (some ⟨p, 0, none⟩), .int .i64 0, .int .i64 0])) := fun W hW => by
          refine (HCO.out W a hW).mono ?_
          rintro e w' ⟨h1, h2, h3⟩
          obtain ⟨p, h4, h5⟩ := comp_good h3 hxa
          exact ⟨h1, p, h4⟩
        have HCB : Hid (∀ W, Below w.heap.size w W → Calls Tryd.prog 10 #[.string b] W fun e w' => Below w.heap.size w w' ∧ ∃ i E : Int, e = .returned (.tuple #[.pointer none, .int .i64 i, .int .i64 E]) ∧ E ≠ 0) := fun W hW => by
          refine (HCO.out W b hW).mono ?_
          rintro e w' ⟨h1, h2, h3⟩
          exact ⟨h1, comp_bad h3 hnb⟩
        clear hnb hok HCO HCU hxa
        go_wp2_with (first
          | (go_at_call 10; refine (HCA.out _ (Below.refl _ _)).mono ?_; clear HCA; rintro e w1 ⟨hb1, p, rfl⟩; have HB1 := hide hb1; clear hb1)
          | (go_at_call 10; refine (HCB.out _ HB1.out).mono ?_; clear HCB; rintro e w2 ⟨hb2, i2, E2, rfl, hE2⟩; have HB2 := hide hb2; clear hb2)
          | (go_at_call 8; refine (HWK.out _ HB2.out).mono ?_; clear HWK; rintro e w3 ⟨rfl, hb3⟩))
        all_goals
          go_ret
          exact ⟨ret_bool (by first | rfl | simpa using hE2), hb3⟩
  · clear HCO HCU
    by_cases hsa : a.size ≤ 60
    · have hza : ¬ (60 : Int) < a.size := by omega
      have hzb : (60 : Int) < b.size := by omega
      go_wp2_with (go_at_call 8; refine (HWK.out _ (Below.refl _ _)).mono ?_; clear HWK; rintro e w3 ⟨rfl, hb3⟩)
      go_ret
      exact ⟨rfl, hb3⟩
    · have hza : (60 : Int) < a.size := by omega
      go_wp2_with (go_at_call 8; refine (HWK.out _ (Below.refl _ _)).mono ?_; clear HWK; rintro e w3 ⟨rfl, hb3⟩)
      go_ret
      exact ⟨rfl, hb3⟩
end Go.Proofs.YtmbkcmfcdjccoaaDoor
