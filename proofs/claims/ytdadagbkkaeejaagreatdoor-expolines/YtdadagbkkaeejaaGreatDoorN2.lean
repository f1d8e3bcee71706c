/- Naturals: naturalOf, tens, compare. -/
import Derived.Test.YtdadagbkkaeejaaGreatDoorN1
namespace Go.Proofs.YtdadagbkkaeejaaGreatDoor.Nu
open Go.RowKit Go.Maps

theorem NRow.of_block {w : World} {base g : Nat} {ds : List UInt32} (h : w.heap[g]? = some (.cells (u32s ds).toArray 83 (0, 0))) (hg : base ≤ g) (hl : ds.length ≤ maxLen) : NRow w base (.slice (some ⟨g, 0, none⟩) ds.length ds.length) ds :=
  ⟨by rw [u32s_length]; omega, Or.inr ⟨g, ds.length, (u32s ds).toArray, rfl, hg, h, Nat.le_refl _, hl, by simp [u32s_length], List.take_of_length_le (by simp [u32s_length])⟩⟩

set_option maxRecDepth 100000 in
set_option maxHeartbeats 1000000 in
theorem naturalOf_any (n : Nat) (w : World) (hn : n < 18446744073709551616) :
    Calls Tryz.prog 73 #[.int .u64 n] w fun e w' => ∃ v', e = .returned v' ∧ Big w' w.heap.size v' n ∧ Below w.heap.size w w' := by
  obtain ⟨W1, hW1⟩ : ∃ W1, w.alloc (.cells #[.int .u32 ((n : Int) % 4294967296), .int .u32 ((n : Int) / 4294967296)] 83) = W1 := ⟨_, rfl⟩
  have hcells : (u32s [UInt32.ofNat n, UInt32.ofNat (n / 4294967296)]).toArray = #[.int .u32 ((n : Int) % 4294967296), .int .u32 ((n : Int) / 4294967296)] := by
    have e1 : ((UInt32.ofNat n).toNat : Int) = (n : Int) % 4294967296 := by
      rw [UInt32.toNat_ofNat']; omega
    have e2 : ((UInt32.ofNat (n / 4294967296)).toNat : Int) = (n : Int) / 4294967296 := by
      rw [UInt32.toNat_ofNat']; omega
    simp only [u32s, List.map, e1, e2]
  have hrow : NRow W1 w.heap.size (.slice (some ⟨w.heap.size, 0, none⟩) 2 2) [UInt32.ofNat n, UInt32.ofNat (n / 4294967296)] :=
    NRow.of_block (ds := [UInt32.ofNat n, UInt32.ofNat (n / 4294967296)]) (by rw [hcells, ← hW1]; exact heap_alloc_new w _) (Nat.le_refl _) (by unfold maxLen; simp)
  have htr := trimmed_any (some ⟨w.heap.size, 0, none⟩) 2 [UInt32.ofNat n, UInt32.ofNat (n / 4294967296)] W1 hrow.at
  have HR2 : Hid _ := trim_row hrow
  have hb : Below w.heap.size w W1 := by rw [← hW1]; exact (Below.refl _ _).alloc (Nat.le_refl _) _
  have HV : Hid (valU (trimU [UInt32.ofNat n, UInt32.ofNat (n / 4294967296)]) = n) := by
    show _ = _
    rw [valU_trim]
    simp only [valU]
    rw [UInt32.toNat_ofNat', UInt32.toNat_ofNat']
    omega
  have HB : Hid (Below w.heap.size w W1) := hb
  have HNM : Hid _ := norm_trim [UInt32.ofNat n, UInt32.ofNat (n / 4294967296)]
  clear hrow hb hcells
  generalize trimU [UInt32.ofNat n, UInt32.ofNat (n / 4294967296)] = ts at *
  go_enter Tryz.func73, Tryz.ntmps73
  go_wp2_with (go_at_call 83; refine htr.mono ?_; clear htr; rintro e w1 ⟨rfl, hw1⟩; have hw1 := hw1.symm; subst hw1)
  go_ret
  exact ⟨_, rfl, ⟨_, _, ts, rfl, HR2.out, HV.out, HNM.out⟩, HB.out⟩

set_option maxRecDepth 100000 in
theorem cmpInt_any (x y : Int) (w : World) : Calls Tryz.prog 106 #[.int .i64 x, .int .i64 y] w fun e w' => e = .returned (.int .i64 (if x < y then -1 else if y < x then 1 else 0)) ∧ w' = w := by
  go_enter Tryz.func106, Tryz.ntmps106
  go_wp2
  all_goals
    go_ret
    simp_all
set_option maxRecDepth 100000 in
theorem cmp32_any (x y : Int) (w : World) : Calls Tryz.prog 107 #[.int .u32 x, .int .u32 y] w fun e w' => e = .returned (.int .i64 (if x < y then -1 else if y < x then 1 else 0)) ∧ w' = w := by
  go_enter Tryz.func107, Tryz.ntmps107
  go_wp2
  all_goals
    go_ret
    simp_all

def cmpN (N M : Nat) : Int := if N < M then -1 else if N = M then 0 else 1

set_option maxRecDepth 100000 in
set_option maxHeartbeats 2000000 in
theorem compare_any (v u : Value) (N M : Nat) (w : World) (h1 : BigAt w v N) (h2 : BigAt w u M) (hN : N < B 1000) (hM : M < B 1000) :
    Calls Tryz.prog 86 #[v, u] w fun e w' => e = .returned (.int .i64 (cmpN N M)) ∧ ∃ q, w' = w.drewN q := by
  obtain ⟨a, c, ds, rfl, hat1, hv1, hn1⟩ := h1
  obtain ⟨a2, c2, es, rfl, hat2, hv2, hn2⟩ := h2
  have hl1 := len_of_val hn1 (hv1 ▸ hN)
  have hl2 := len_of_val hn2 (hv2 ▸ hM)
  have HA1 : Hid (NAt w (.slice a ds.length c) ds) := hat1
  have HA2 : Hid (NAt w (.slice a2 es.length c2) es) := hat2
  clear hat1 hat2 hN hM
  have HLT : Hid (ds.length < es.length → cmpN N M = -1) := fun hlt => by
    have h9 := cmp_len (a := ds) hn2 hlt
    unfold cmpN
    rw [if_pos (by omega)]
  have HGT : Hid (es.length < ds.length → cmpN N M = 1) := fun hlt => by
    have h9 := cmp_len (a := es) hn1 hlt
    unfold cmpN
    rw [if_neg (by omega), if_neg (by omega)]
  by_cases hne : ds.length = es.length
  · have HAT1 : Hid (∀ (i : Nat) (hi : i < ds.length) (hi' : i < es.length), ds.drop (i + 1) = es.drop (i + 1) → ds[i].toNat < es[i].toNat → cmpN N M = -1) := fun i hi hi' he hlt => by
      have h9 := cmp_at hne i hi he hlt
      unfold cmpN
      rw [if_pos (by omega)]
    have HAT2 : Hid (∀ (i : Nat) (hi : i < ds.length) (hi' : i < es.length), ds.drop (i + 1) = es.drop (i + 1) → es[i].toNat < ds[i].toNat → cmpN N M = 1) := fun i hi hi' he hlt => by
      have h9 := cmp_at hne.symm i hi' he.symm hlt
      unfold cmpN
      rw [if_neg (by omega), if_neg (by omega)]
    have HEQ : Hid (ds = es → cmpN N M = 0) := fun he => by
      unfold cmpN
      have : N = M := by rw [← hv1, ← hv2, he]
      rw [if_neg (by omega), if_pos this]
    have HSTEP : Hid (∀ (i : Nat) (hi : i < ds.length) (hi' : i < es.length), ds.drop (i + 1) = es.drop (i + 1) → ds[i].toNat = es[i].toNat → ds.drop i = es.drop i) := fun i hi hi' he heq => drop_step hne i hi he (UInt32.toNat_inj.1 heq)
    have hmx : Tryz.prog.follows .mixedOrders = true := by kernel_rfl
    have HNE : Hid (ds.length = es.length) := hne
    rw [hne]
    clear HLT HGT hn1 hn2 hv1 hv2 hne hl1
    go_enter Tryz.func86, Tryz.ntmps86
    go_wp2
    go_loopw [5] (fun i wr => ∃ k q : Nat, k ≤ es.length ∧ i = .int .i64 ((k : Int) - 1) ∧ wr = w.drewN q ∧ Hid (ds.drop k = es.drop k)) (fun i _ => (intOf i + 1).toNat)
    case atStart => exact ⟨es.length, 0, Nat.le_refl _, rfl, rfl, by show _ = _; have := HNE.out; rw [List.drop_length, List.drop_of_length_le (by omega)]⟩
    case round =>
      obtain ⟨k, q, hk, rfl, rfl, hd⟩ := hrel
      cases k with
      | zero =>
        have HE : Hid (cmpN N M = 0) := HEQ.out (by simpa using hd.out)
        clear HEQ HSTEP HAT1 HAT2
        go_wp2
        go_ret
        exact ⟨by rw [HE.out]; rfl, q, rfl⟩
      | succ j =>
        have hj1 : j < ds.length := by have := HNE.out; omega
        have hj2 : j < es.length := by omega
        obtain ⟨b1, o1, rfl, hb1, hc1⟩ := HA1.out.one j hj1
        obtain ⟨b2, o2, rfl, hb2, hc2⟩ := HA2.out.one j hj2
        have g1 := HAT1.out j hj1 hj2 hd.out
        have g2 := HAT2.out j hj1 hj2 hd.out
        have g3 := HSTEP.out j hj1 hj2 hd.out
        obtain ⟨x, hx⟩ : ∃ x, x = ds[j].toNat := ⟨_, rfl⟩
        obtain ⟨y, hy⟩ : ∃ y, y = es[j].toNat := ⟨_, rfl⟩
        rw [← hx, ← hy] at g1 g2 g3
        rw [← hx] at hc1
        rw [← hy] at hc2
        have G1 : Hid (x < y → cmpN N M = -1) := g1
        have G2 : Hid (y < x → cmpN N M = 1) := g2
        have G3 : Hid (x = y → ds.drop j = es.drop j) := g3
        have k1 : ∀ q, (w.drewN q).cell? ⟨b1, o1 + j, none⟩ = some (.int .u32 x) := fun _ => hc1
        have k2 : ∀ q, (w.drewN q).cell? ⟨b2, o2 + j, none⟩ = some (.int .u32 y) := fun _ => hc2
        clear hx hy g1 g2 g3 HEQ HSTEP HAT1 HAT2 hd HA1 HA2
        have hji : ((j + 1 : Nat) : Int) - 1 = (j : Int) := by omega
        rw [hji]
        clear hji
        by_cases hxy : x = y
        · subst hxy
          have GE : Hid (ds.drop j = es.drop j) := G3.out rfl
          clear G1 G2 G3
          go_wp2
          go_quiet (fail)
          go_wp2
          go_roundw
          case rel => exact ⟨j, _, by omega, rfl, rfl, GE⟩
          case measure => simp [intOf]
        · have HC : Hid (cmpN N M = if (x : Int) < (y : Int) then -1 else if (y : Int) < (x : Int) then 1 else 0) := by
            show _ = _
            by_cases h9 : x < y
            · rw [G1.out h9, if_pos (by omega)]
            · rw [G2.out (by omega), if_neg (by omega), if_pos (by omega)]
          have HQ : Hid (∀ W, Calls Tryz.prog 107 #[.int .u32 (x : Int), .int .u32 (y : Int)] W fun e w' => e = .returned (.int .i64 (cmpN N M)) ∧ w' = W) := fun W => by rw [HC.out]; exact cmp32_any _ _ _
          clear G1 G2 G3 HC
          go_wp2
          go_quiet (fail)
          go_wp2
          go_quiet (first | (go_at_call 107; exact (HQ.out _).mono fun _ _ ⟨he, hw⟩ => ⟨he, _, hw⟩))
          go_wp2
          go_ret
          exact ⟨rfl, _, by rw [drewN_drewN, drewN_drewN]⟩
  · have HC : Hid (cmpN N M = if (ds.length : Int) < (es.length : Int) then -1 else if (es.length : Int) < (ds.length : Int) then 1 else 0) := by
      show _ = _
      by_cases h9 : ds.length < es.length
      · rw [HLT.out h9, if_pos (by omega)]
      · rw [HGT.out (by omega), if_neg (by omega), if_pos (by omega)]
    have hd : ∀ W, Calls Tryz.prog 106 #[.int .i64 (ds.length : Int), .int .i64 (es.length : Int)] W fun e w' => e = .returned (.int .i64 (cmpN N M)) ∧ w' = W := fun W => by rw [HC.out]; exact cmpInt_any _ _ _
    clear HLT HGT HA1 HA2 hn1 hn2 hv1 hv2 HC
    go_enter Tryz.func86, Tryz.ntmps86
    go_wp2_with (go_at_call 106; refine (hd _).mono ?_; clear hd; rintro e w1 ⟨rfl, hw1⟩; have hw1 := hw1.symm; subst hw1)
    go_ret
    exact ⟨rfl, 0, rfl⟩

theorem tens_le {M m N n : Nat} (h : M * 10 ^ m = N * 10 ^ n) (hN : N * 10 ^ n < B 999) : M < B 999 := by
  have : M * 1 ≤ M * 10 ^ m := Nat.mul_le_mul_left _ (Nat.pow_pos (by decide))
  omega

set_option maxRecDepth 100000 in
set_option maxHeartbeats 1000000 in
theorem tens_any (base : Nat) (v : Value) (N : Nat) (n : Int) (w : World) (h : Big w base v N) (hn1 : -100000 ≤ n) (hn2 : n ≤ 100000) (hN : N * 10 ^ n.toNat < B 999) (hb : base ≤ w.heap.size) :
    Calls Tryz.prog 72 #[v, .int .i64 n] w fun e w' => ∃ v', e = .returned v' ∧ Big w' base v' (N * 10 ^ n.toNat) ∧ Step w w' v v' := by
  have HN : Hid (N * 10 ^ n.toNat < B 999) := hN
  have HH : Hid (Big w base v N) := h
  have HST : Hid (∀ M v1 W, Big W base v1 M → M < B 999 → base ≤ W.heap.size → Calls Tryz.prog 71 #[v1, .int .u32 1000000000, .int .u32 0] W fun e w' => ∃ v', e = .returned v' ∧ Big w' base v' (M * 1000000000) ∧ Step W w' v1 v') := fun M v1 W h1 h2 h3 => (grown_any base v1 M 1000000000 0 W h1 (by decide) (by decide) (by decide) (by have := B_mono (show 999 ≤ 1000 by decide); omega) h3).mono fun e w' ⟨v', he, hb, hs⟩ => ⟨v', he, by rw [Nat.add_zero] at hb; exact hb, hs⟩
  have HST2 : Hid (∀ M v1 W, Big W base v1 M → M < B 999 → base ≤ W.heap.size → Calls Tryz.prog 71 #[v1, .int .u32 10, .int .u32 0] W fun e w' => ∃ v', e = .returned v' ∧ Big w' base v' (M * 10) ∧ Step W w' v1 v') := fun M v1 W h1 h2 h3 => (grown_any base v1 M 10 0 W h1 (by decide) (by decide) (by decide) (by have := B_mono (show 999 ≤ 1000 by decide); omega) h3).mono fun e w' ⟨v', he, hb, hs⟩ => ⟨v', he, by rw [Nat.add_zero] at hb; exact hb, hs⟩
  clear h hN
  go_enter Tryz.func72, Tryz.ntmps72
  go_wp2
  go_loopw [0, 1] (fun s i wr => ∃ (M : Nat) (m : Int), i = .int .i64 m ∧ -100000 ≤ m ∧ m ≤ 100000 ∧ Hid (M * 10 ^ m.toNat = N * 10 ^ n.toNat ∧ Big wr base s M ∧ Step w wr v s)) (fun _ i _ => (intOf i + 100000).toNat)
  case atStart => exact ⟨N, n, rfl, hn1, hn2, rfl, HH.out, Step.refl _ _⟩
  case round =>
    obtain ⟨M, m, rfl, hm1, hm2, hI⟩ := hrel
    obtain ⟨hv, hB, hS⟩ := hI.out
    have hsz := hS.1.size
    by_cases h9 : 9 ≤ m
    · have hcall := HST.out M _ wr hB (tens_le hv HN.out) (by omega)
      have HV : Hid (M * 1000000000 * 10 ^ (m - 9).toNat = N * 10 ^ n.toNat) := by
        show _ = _
        rw [← hv, Nat.mul_assoc]
        congr 1
        have e : m.toNat = 9 + (m - 9).toNat := by omega
        rw [e, Nat.pow_add]
      have HS : Hid (Step w wr v u0) := hS
      clear hI hv hB hS
      go_wp2_with (go_at_call 71; refine hcall.mono ?_; clear hcall; rintro e w1 ⟨v1, rfl, hB1, hS1⟩)
      go_roundw
      case rel => exact ⟨M * 1000000000, m - 9, rfl, by omega, by omega, HV.out, hB1, HS.out.trans hS1⟩
      case measure => simp [intOf]; omega
    · clear hI
      have HV : Hid (M * 10 ^ m.toNat = N * 10 ^ n.toNat) := hv
      have HB : Hid (Big wr base u0 M) := hB
      have HS : Hid (Step w wr v u0) := hS
      clear hv hB hS
      go_wp2
      go_loopw [0, 1] (fun s i wr => ∃ (M : Nat) (m : Int), i = .int .i64 m ∧ -100000 ≤ m ∧ m ≤ 100000 ∧ Hid (M * 10 ^ m.toNat = N * 10 ^ n.toNat ∧ Big wr base s M ∧ Step w wr v s)) (fun _ i _ => (intOf i + 100000).toNat)
      case atStart => exact ⟨M, m, rfl, hm1, hm2, HV.out, HB.out, HS.out⟩
      case round =>
        clear hm1 hm2 h9 HV HB HS hsz
        obtain ⟨M, m, rfl, hm1, hm2, hI⟩ := hrel
        obtain ⟨hv, hB, hS⟩ := hI.out
        have hsz := hS.1.size
        by_cases h9 : 1 ≤ m
        · have hcall := HST2.out M _ wr hB (tens_le hv HN.out) (by omega)
          have HV : Hid (M * 10 * 10 ^ (m - 1).toNat = N * 10 ^ n.toNat) := by
            show _ = _
            rw [← hv, Nat.mul_assoc]
            congr 1
            have e : m.toNat = 1 + (m - 1).toNat := by omega
            rw [e, Nat.pow_add]
          have HS : Hid (Step w wr v u0) := hS
          clear hI hv hB hS
          go_wp2_with (go_at_call 71; refine hcall.mono ?_; clear hcall; rintro e w1 ⟨v1, rfl, hB1, hS1⟩)
          go_roundw
          case rel => exact ⟨M * 10, m - 1, rfl, by omega, by omega, HV.out, hB1, HS.out.trans hS1⟩
          case measure => simp [intOf]; omega
        · have e0 : m.toNat = 0 := by omega
          rw [e0, Nat.pow_zero, Nat.mul_one] at hv
          have HB : Hid (Big wr base u0 (N * 10 ^ n.toNat)) := by rw [hv] at hB; exact hB
          have HS : Hid (Step w wr v u0) := hS
          clear hI hv hB hS
          go_wp2
          go_ret
          exact ⟨_, rfl, HB.out, HS.out⟩

end Go.Proofs.YtdadagbkkaeejaaGreatDoor.Nu
