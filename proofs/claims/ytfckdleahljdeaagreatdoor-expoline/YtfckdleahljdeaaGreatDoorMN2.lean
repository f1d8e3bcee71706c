/- Texts that belong together. -/
import Derived.Test.YtfckdleahljdeaaGreatDoorMN0
/- Naturals: naturalOf, tens, compare. -/
namespace Go.Proofs.YtfckdleahljdeaaGreatDoor.Nu
open Go.RowKit Go.Maps

theorem NRow.of_block {w : World} {base g : Nat} {ds : List UInt32} (h : w.heap[g]? = some (.cells (u32s ds).toArray 116 (0, 0))) (hg : base ≤ g) (hl : ds.length ≤ maxLen) : NRow w base (.slice (some ⟨g, 0, none⟩) ds.length ds.length) ds :=
  ⟨by rw [u32s_length]; omega, Or.inr ⟨g, ds.length, (u32s ds).toArray, rfl, hg, h, Nat.le_refl _, hl, by simp [u32s_length], List.take_of_length_le (by simp [u32s_length])⟩⟩

set_option maxRecDepth 100000 in
set_option maxHeartbeats 1000000 in
theorem naturalOf_any (n : Nat) (w : World) (hn : n < 18446744073709551616) :
    Calls Tryz.prog 90 #[.int .u64 n] w fun e w' => ∃ v', e = .returned v' ∧ Big w' w.heap.size v' n ∧ Below w.heap.size w w' := by
  obtain ⟨W1, hW1⟩ : ∃ W1, w.alloc (.cells #[.int .u32 ((n : Int) % 4294967296), .int .u32 ((n : Int) / 4294967296)] 116) = W1 := ⟨_, rfl⟩
  have hcells : (u32s [UInt32.ofNat n, UInt32.ofNat (n / 4294967296)]).toArray = #[.int .u32 ((n : Int) % 4294967296), .int .u32 ((n : Int) / 4294967296)] := by
    have e1 : ((UInt32.ofNat n).toNat : Int) = (n : Int) % 4294967296 := by
      rw [UInt32.toNat_ofNat']; omega
    have e2 : ((UInt32.ofNat (n / 4294967296)).toNat : Int) = (n : Int) / 4294967296 := by
      rw [UInt32.toNat_ofNat']; omega
    simp only [u32s, List.map, e1, e2]
  have hrow : NRow W1 w.heap.size (.slice (some ⟨w.heap.size, 0, none⟩) 2 2) [UInt32.ofNat n, UInt32.ofNat (n / 4294967296)] :=
    NRow.of_block (ds := [UInt32.ofNat n, UInt32.ofNat (n / 4294967296)]) (by rw [hcells, ← hW1]; exact heap_alloc_new w _) (Nat.le_refl _) (by unfold maxLen; simp)
  have htr := trimmed_any (some ⟨w.heap.size, 0, none⟩) 2 [UInt32.ofNat n, UInt32.ofNat (n / 4294967296)] W1 hrow.at
  have HR2 : Hid _ := trim_row hrow
  have hb : Below w.heap.size w W1 := by rw [← hW1]; exact (Below.refl _ _).alloc (Nat.le_refl _) _
  have HV : Hid (valU (trimU [UInt32.ofNat n, UInt32.ofNat (n / 4294967296)]) = n) := by
    show _ = _
    rw [valU_trim]
    simp only [valU]
    rw [UInt32.toNat_ofNat', UInt32.toNat_ofNat']
    omega
  have HB : Hid (Below w.heap.size w W1) := hb
  have HNM : Hid _ := norm_trim [UInt32.ofNat n, UInt32.ofNat (n / 4294967296)]
  clear hrow hb hcells
  generalize trimU [UInt32.ofNat n, UInt32.ofNat (n / 4294967296)] = ts at *
  go_enter Tryz.func90, Tryz.ntmps90
  go_wp2_with (go_at_call 107; refine htr.mono ?_; clear htr; rintro e w1 ⟨rfl, hw1⟩; have hw1 := hw1.symm; subst hw1)
  go_ret
  exact ⟨_, rfl, ⟨_, _, ts, rfl, HR2.out, HV.out, HNM.out⟩, HB.out⟩

set_option maxRecDepth 100000 in
theorem cmpInt_any (x y : Int) (w : World) : Calls Tryz.prog 134 #[.int .i64 x, .int .i64 y] w fun e w' => e = .returned (.int .i64 (if x < y then -1 else if y < x then 1 else 0)) ∧ w' = w := by
  go_enter Tryz.func134, Tryz.ntmps134
  go_wp2
  all_goals
    go_ret
    simp_all
set_option maxRecDepth 100000 in
theorem cmp32_any (x y : Int) (w : World) : Calls Tryz.prog 135 #[.int .u32 x, .int .u32 y] w fun e w' => e = .returned (.int .i64 (if x < y then -1 else if y < x then 1 else 0)) ∧ w' = w := by
  go_enter Tryz.func135, Tryz.ntmps135
  go_wp2
  all_goals
    go_ret
    simp_all

def cmpN (N M : Nat) : Int := if N < M then -1 else if N = M then 0 else 1

set_option maxRecDepth 100000 in
set_option maxHeartbeats 2000000 in
theorem compare_any (v u : Value) (N M : Nat) (w : World) (h1 : BigAt w v N) (h2 : BigAt w u M) (hN : N < B 1000) (hM : M < B 1000) :
    Calls Tryz.prog 110 #[v, u] w fun e w' => e = .returned (.int .i64 (cmpN N M)) ∧ ∃ q, w' = w.drewN q := by
  obtain ⟨a, c, ds, rfl, hat1, hv1, hn1⟩ := h1
  obtain ⟨a2, c2, es, rfl, hat2, hv2, hn2⟩ := h2
  have hl1 := len_of_val hn1 (hv1 ▸ hN)
  have hl2 := len_of_val hn2 (hv2 ▸ hM)
  have HA1 : Hid (NAt w (.slice a ds.length c) ds) := hat1
  have HA2 : Hid (NAt w (.slice a2 es.length c2) es) := hat2
  clear hat1 hat2 hN hM
  have HLT : Hid (ds.length < es.length → cmpN N M = -1) := fun hlt => by
    have h9 := cmp_len (a := ds) hn2 hlt
    unfold cmpN
    rw [if_pos (by omega)]
  have HGT : Hid (es.length < ds.length → cmpN N M = 1) := fun hlt => by
    have h9 := cmp_len (a := es) hn1 hlt
    unfold cmpN
    rw [if_neg (by omega), if_neg (by omega)]
  by_cases hne : ds.length = es.length
  · have HAT1 : Hid (∀ (i : Nat) (hi : i < ds.length) (hi' : i < es.length), ds.drop (i + 1) = es.drop (i + 1) → ds[i].toNat < es[i].toNat → cmpN N M = -1) := fun i hi hi' he hlt => by
      have h9 := cmp_at hne i hi he hlt
      unfold cmpN
      rw [if_pos (by omega)]
    have HAT2 : Hid (∀ (i : Nat) (hi : i < ds.length) (hi' : i < es.length), ds.drop (i + 1) = es.drop (i + 1) → es[i].toNat < ds[i].toNat → cmpN N M = 1) := fun i hi hi' he hlt => by
      have h9 := cmp_at hne.symm i hi' he.symm hlt
      unfold cmpN
      rw [if_neg (by omega), if_neg (by omega)]
    have HEQ : Hid (ds = es → cmpN N M = 0) := fun he => by
      unfold cmpN
      have : N = M := by rw [← hv1, ← hv2, he]
      rw [if_neg (by omega), if_pos this]
    have HSTEP : Hid (∀ (i : Nat) (hi : i < ds.length) (hi' : i < es.length), ds.drop (i + 1) = es.drop (i + 1) → ds[i].toNat = es[i].toNat → ds.drop i = es.drop i) := fun i hi hi' he heq => drop_step hne i hi he (UInt32.toNat_inj.1 heq)
    have hmx : Tryz.prog.follows .mixedOrders = true := by kernel_rfl
    have HNE : Hid (ds.length = es.length) := hne
    rw [hne]
    clear HLT HGT hn1 hn2 hv1 hv2 hne hl1
    go_enter Tryz.func110, Tryz.ntmps110
    go_wp2
    go_loopw [5] (fun i wr => ∃ k q : Nat, k ≤ es.length ∧ i = .int .i64 ((k : Int) - 1) ∧ wr = w.drewN q ∧ Hid (ds.drop k = es.drop k)) (fun i _ => (intOf i + 1).toNat)
    case atStart => exact ⟨es.length, 0, Nat.le_refl _, rfl, rfl, by show _ = _; have := HNE.out; rw [List.drop_length, List.drop_of_length_le (by omega)]⟩
    case round =>
      obtain ⟨k, q, hk, rfl, rfl, hd⟩ := hrel
      cases k with
      | zero =>
        have HE : Hid (cmpN N M = 0) := HEQ.out (by simpa using hd.out)
        clear HEQ HSTEP HAT1 HAT2
        go_wp2
        go_ret
        exact ⟨by rw [HE.out]; rfl, q, rfl⟩
      | succ j =>
        have hj1 : j < ds.length := by have := HNE.out; omega
        have hj2 : j < es.length := by omega
        obtain ⟨b1, o1, rfl, hb1, hc1⟩ := HA1.out.one j hj1
        obtain ⟨b2, o2, rfl, hb2, hc2⟩ := HA2.out.one j hj2
        have g1 := HAT1.out j hj1 hj2 hd.out
        have g2 := HAT2.out j hj1 hj2 hd.out
        have g3 := HSTEP.out j hj1 hj2 hd.out
        obtain ⟨x, hx⟩ : ∃ x, x = ds[j].toNat := ⟨_, rfl⟩
        obtain ⟨y, hy⟩ : ∃ y, y = es[j].toNat := ⟨_, rfl⟩
        rw [← hx, ← hy] at g1 g2 g3
        rw [← hx] at hc1
        rw [← hy] at hc2
        have G1 : Hid (x < y → cmpN N M = -1) := g1
        have G2 : Hid (y < x → cmpN N M = 1) := g2
        have G3 : Hid (x = y → ds.drop j = es.drop j) := g3
        have k1 : ∀ q, (w.drewN q).cell? ⟨b1, o1 + j, none⟩ = some (.int .u32 x) := fun _ => hc1
        have k2 : ∀ q, (w.drewN q).cell? ⟨b2, o2 + j, none⟩ = some (.int .u32 y) := fun _ => hc2
        clear hx hy g1 g2 g3 HEQ HSTEP HAT1 HAT2 hd HA1 HA2
        have hji : ((j + 1 : Nat) : Int) - 1 = (j : Int) := by omega
        rw [hji]
        clear hji
        by_cases hxy : x = y
        · subst hxy
          have GE : Hid (ds.drop j = es.drop j) := G3.out rfl
          clear G1 G2 G3
          go_wp2
          go_quiet (fail)
          go_wp2
          go_roundw
          case rel => exact ⟨j, _, by omega, rfl, rfl, GE⟩
          case measure => simp [intOf]
        · have HC : Hid (cmpN N M = if (x : Int) < (y : Int) then -1 else if (y : Int) < (x : Int) then 1 else 0) := by
            show _ = _
            by_cases h9 : x < y
            · rw [G1.out h9, if_pos (by omega)]
            · rw [G2.out (by omega), if_neg (by omega), if_pos (by omega)]
          have HQ : Hid (∀ W, Calls Tryz.prog 135 #[.int .u32 (x : Int), .int .u32 (y : Int)] W fun e w' => e = .returned (.int .i64 (cmpN N M)) ∧ w' = W) := fun W => by rw [HC.out]; exact cmp32_any _ _ _
          clear G1 G2 G3 HC
          go_wp2
          go_quiet (fail)
          go_wp2
          go_quiet (first | (go_at_call 135; exact (HQ.out _).mono fun _ _ ⟨he, hw⟩ => ⟨he, _, hw⟩))
          go_wp2
          go_ret
          exact ⟨rfl, _, by rw [drewN_drewN, drewN_drewN]⟩
  · have HC : Hid (cmpN N M = if (ds.length : Int) < (es.length : Int) then -1 else if (es.length : Int) < (ds.length : Int) then 1 else 0) := by
      show _ = _
      by_cases h9 : ds.length < es.length
      · rw [HLT.out h9, if_pos (by omega)]
      · rw [HGT.out (by omega), if_neg (by omega), if_pos (by omega)]
    have hd : ∀ W, Calls Tryz.prog 134 #[.int .i64 (ds.length : Int), .int .i64 (es.length : Int)] W fun e w' => e = .returned (.int .i64 (cmpN N M)) ∧ w' = W := fun W => by rw [HC.out]; exact cmpInt_any _ _ _
    clear HLT HGT HA1 HA2 hn1 hn2 hv1 hv2 HC
    go_enter Tryz.func110, Tryz.ntmps110
    go_wp2_with (go_at_call 134; refine (hd _).mono ?_; clear hd; rintro e w1 ⟨rfl, hw1⟩; have hw1 := hw1.symm; subst hw1)
    go_ret
    exact ⟨rfl, 0, rfl⟩

theorem tens_le {M m N n : Nat} (h : M * 10 ^ m = N * 10 ^ n) (hN : N * 10 ^ n < B 999) : M < B 999 := by
  have : M * 1 ≤ M * 10 ^ m := Nat.mul_le_mul_left _ (Nat.pow_pos (by decide))
  omega

set_option maxRecDepth 100000 in
set_option maxHeartbeats 1000000 in
theorem tens_any (base : Nat) (v : Value) (N : Nat) (n : Int) (w : World) (h : Big w base v N) (hn1 : -100000 ≤ n) (hn2 : n ≤ 100000) (hN : N * 10 ^ n.toNat < B 999) (hb : base ≤ w.heap.size) :
    Calls Tryz.prog 89 #[v, .int .i64 n] w fun e w' => ∃ v', e = .returned v' ∧ Big w' base v' (N * 10 ^ n.toNat) ∧ Step w w' v v' := by
  have HN : Hid (N * 10 ^ n.toNat < B 999) := hN
  have HH : Hid (Big w base v N) := h
  have HST : Hid (∀ M v1 W, Big W base v1 M → M < B 999 → base ≤ W.heap.size → Calls Tryz.prog 88 #[v1, .int .u32 1000000000, .int .u32 0] W fun e w' => ∃ v', e = .returned v' ∧ Big w' base v' (M * 1000000000) ∧ Step W w' v1 v') := fun M v1 W h1 h2 h3 => (grown_any base v1 M 1000000000 0 W h1 (by decide) (by decide) (by decide) (by have := B_mono (show 999 ≤ 1000 by decide); omega) h3).mono fun e w' ⟨v', he, hb, hs⟩ => ⟨v', he, by rw [Nat.add_zero] at hb; exact hb, hs⟩
  have HST2 : Hid (∀ M v1 W, Big W base v1 M → M < B 999 → base ≤ W.heap.size → Calls Tryz.prog 88 #[v1, .int .u32 10, .int .u32 0] W fun e w' => ∃ v', e = .returned v' ∧ Big w' base v' (M * 10) ∧ Step W w' v1 v') := fun M v1 W h1 h2 h3 => (grown_any base v1 M 10 0 W h1 (by decide) (by decide) (by decide) (by have := B_mono (show 999 ≤ 1000 by decide); omega) h3).mono fun e w' ⟨v', he, hb, hs⟩ => ⟨v', he, by rw [Nat.add_zero] at hb; exact hb, hs⟩
  clear h hN
  go_enter Tryz.func89, Tryz.ntmps89
  go_wp2
  go_loopw [0, 1] (fun s i wr => ∃ (M : Nat) (m : Int), i = .int .i64 m ∧ -100000 ≤ m ∧ m ≤ 100000 ∧ Hid (M * 10 ^ m.toNat = N * 10 ^ n.toNat ∧ Big wr base s M ∧ Step w wr v s)) (fun _ i _ => (intOf i + 100000).toNat)
  case atStart => exact ⟨N, n, rfl, hn1, hn2, rfl, HH.out, Step.refl _ _⟩
  case round =>
    obtain ⟨M, m, rfl, hm1, hm2, hI⟩ := hrel
    obtain ⟨hv, hB, hS⟩ := hI.out
    have hsz := hS.1.size
    by_cases h9 : 9 ≤ m
    · have hcall := HST.out M _ wr hB (tens_le hv HN.out) (by omega)
      have HV : Hid (M * 1000000000 * 10 ^ (m - 9).toNat = N * 10 ^ n.toNat) := by
        show _ = _
        rw [← hv, Nat.mul_assoc]
        congr 1
        have e : m.toNat = 9 + (m - 9).toNat := by omega
        rw [e, Nat.pow_add]
      have HS : Hid (Step w wr v u0) := hS
      clear hI hv hB hS
      go_wp2_with (go_at_call 88; refine hcall.mono ?_; clear hcall; rintro e w1 ⟨v1, rfl, hB1, hS1⟩)
      go_roundw
      case rel => exact ⟨M * 1000000000, m - 9, rfl, by omega, by omega, HV.out, hB1, HS.out.trans hS1⟩
      case measure => simp [intOf]; omega
    · clear hI
      have HV : Hid (M * 10 ^ m.toNat = N * 10 ^ n.toNat) := hv
      have HB : Hid (Big wr base u0 M) := hB
      have HS : Hid (Step w wr v u0) := hS
      clear hv hB hS
      go_wp2
      go_loopw [0, 1] (fun s i wr => ∃ (M : Nat) (m : Int), i = .int .i64 m ∧ -100000 ≤ m ∧ m ≤ 100000 ∧ Hid (M * 10 ^ m.toNat = N * 10 ^ n.toNat ∧ Big wr base s M ∧ Step w wr v s)) (fun _ i _ => (intOf i + 100000).toNat)
      case atStart => exact ⟨M, m, rfl, hm1, hm2, HV.out, HB.out, HS.out⟩
      case round =>
        clear hm1 hm2 h9 HV HB HS hsz
        obtain ⟨M, m, rfl, hm1, hm2, hI⟩ := hrel
        obtain ⟨hv, hB, hS⟩ := hI.out
        have hsz := hS.1.size
        by_cases h9 : 1 ≤ m
        · have hcall := HST2.out M _ wr hB (tens_le hv HN.out) (by omega)
          have HV : Hid (M * 10 * 10 ^ (m - 1).toNat = N * 10 ^ n.toNat) := by
            show _ = _
            rw [← hv, Nat.mul_assoc]
            congr 1
            have e : m.toNat = 1 + (m - 1).toNat := by omega
            rw [e, Nat.pow_add]
          have HS : Hid (Step w wr v u0) := hS
          clear hI hv hB hS
          go_wp2_with (go_at_call 88; refine hcall.mono ?_; clear hcall; rintro e w1 ⟨v1, rfl, hB1, hS1⟩)
          go_roundw
          case rel => exact ⟨M * 10, m - 1, rfl, by omega, by omega, HV.out, hB1, HS.out.trans hS1⟩
          case measure => simp [intOf]; omega
        · have e0 : m.toNat = 0 := by omega
          rw [e0, Nat.pow_zero, Nat.mul_one] at hv
          have HB : Hid (Big wr base u0 (N * 10 ^ n.toNat)) := by rw [hv] at hB; exact hB
          have HS : Hid (Step w wr v u0) := hS
          clear hI hv hB hS
          go_wp2
          go_ret
          exact ⟨_, rfl, HB.out, HS.out⟩

end Go.Proofs.YtfckdleahljdeaaGreatDoor.Nu

/- Naturals: sums, shifts, differences. -/
namespace Go.Proofs.YtfckdleahljdeaaGreatDoor.Nu
open Go.RowKit Go.Maps

/-- append of one word. -/
theorem wpList_append_word (w : World) {ops : Array Oper} {rest : List Oper} {o : Oper} {a : Act} {Q : Exit → Act → World → Prop} (hgd : o.guard = none) (s x : Operand)
    (ho : o.op = .call { callee := .builtin .append, args := #[s, x], argTypes := #[127, 127] }) (base : Nat) (ao : Option Addr) (n co : Nat) (es : List UInt32) (hs : a.eval s = .slice ao n co) (hrow : w.ownsRow base 116 1 (.slice ao n co) n (u32s es))
    (g : Nat) (y : Int) (hy0 : 0 ≤ y) (hy : y < 4294967296) (hx : a.eval x = .slice (some ⟨g, 0, none⟩) 1 1) (hg : w.heap[g]? = some (.cells #[.int .u32 y] 116 (0, 0))) (hl : n ≤ 100000) (hbase : base ≤ w.heap.size)
    (h : ∀ a' c' w', w'.ownsRow base 116 1 (.slice a' (n + 1) c') (n + 1) (u32s (es ++ [UInt32.ofNat y.toNat])) → w.grownBy w' (Value.slice ao n co).ownBlock → (∀ k, (Value.slice a' (n + 1) c').ownBlock = some k → (Value.slice ao n co).ownBlock = some k ∨ w.heap.size ≤ k) → wpList Tryz.prog ops Q rest (a.put o.dst (.slice a' (n + 1) c')) w') : wpList Tryz.prog ops Q (o :: rest) a w := by
  obtain ⟨i0, hi0, hz0, hz1, hz2⟩ := info_parts infoU32
  refine wpList_append_own_at w hgd s x 127 ho base 116 i0 _ 1 4 Tryz.underlying127 hi0 hz0 hz1 hz2 rfl (by decide) (.slice ao n co) n (u32s es) hs hrow ⟨g, 0, none⟩ 1 1 [.int .u32 y] hx rfl (World.news_of_block (cs := #[.int .u32 y]) (t := 116) (fr := (0, 0)) hg) (by simp [Value.oneCell']) (by unfold maxLen; omega) (by omega) hbase ?_
  intro v1 w1 hr1 hg1 hnil1 hloc1
  obtain ⟨a1, c1, rfl⟩ := slice_of_row hr1
  refine h a1 c1 w1 ?_ hg1 (fun k hk => ?_)
  · have hxx : ((UInt32.ofNat y.toNat).toNat : Int) = y := by rw [UInt32.toNat_ofNat']; omega
    have : u32s (es ++ [UInt32.ofNat y.toNat]) = u32s es ++ [.int .u32 y] := by rw [u32s_append]; simp only [u32s, List.map_cons, List.map_nil, hxx]
    rw [this]
    exact hr1
  · rcases hloc1 with e | e
    · left; rw [← e]; exact hk
    · right
      rw [hk] at e
      have := Option.some.inj e
      omega
theorem ofNat_mod (n : Nat) : UInt32.ofNat (n % 4294967296) = UInt32.ofNat n := UInt32.toNat_inj.1 (by rw [UInt32.toNat_ofNat', UInt32.toNat_ofNat']; omega)
theorem word_at {w : World} {ds : List UInt32} {a : Option Addr} {c n : Nat} (h : NAt w (.slice a n c) ds) (k : Nat) (hk : k < ds.length) {w' : World} (hb : Below w.heap.size w w') : ∃ b o, a = some ⟨b, o, none⟩ ∧ w'.cell? ⟨b, o + k, none⟩ = some (.int .u32 ds[k].toNat) := by
  obtain ⟨b, o, e, hl, hc⟩ := h.one k hk
  exact ⟨b, o, e, (hb.cell (p := ⟨b, o + k, none⟩) hl).trans hc⟩
theorem take_val {ds : List UInt32} {k : Nat} (hk : k < ds.length) : valU (ds.take (k + 1)) = valU (ds.take k) + B k * ds[k].toNat := by
  rw [List.take_succ_eq_append_getElem hk, valU_snoc]
  have : (ds.take k).length = k := by simp; omega
  rw [this]

end Go.Proofs.YtfckdleahljdeaaGreatDoor.Nu

/- Naturals: differences, shifts, lengths. -/
namespace Go.Proofs.YtfckdleahljdeaaGreatDoor.Nu
open Go.RowKit Go.Maps

theorem wrapU (x : Int) : IntKind.u64.wrap x = x % 18446744073709551616 := by
  simp [IntKind.wrap, IntKind.bits, IntKind.signed]

set_option maxRecDepth 100000 in
set_option maxHeartbeats 2000000 in
theorem minus_any (base : Nat) (v u : Value) (N M : Nat) (w : World) (h : Big w base v N) (h2 : BigAt w u M) (hne : ∀ k, u.ownBlock = some k → ¬ v.ownBlock = some k) (hle : M ≤ N) (hN : N < B 1000) :
    Calls Tryz.prog 111 #[v, u] w fun e w' => ∃ v', e = .returned v' ∧ Big w' base v' (N - M) ∧ Step w w' v v' := by
  obtain ⟨a, c, ds, rfl, hrow, hval, hnorm⟩ := h
  obtain ⟨a2, c2, es, rfl, hat2, hv2, hn2⟩ := h2
  have hlen := len_of_val hnorm (hval ▸ hN)
  have hlen2 : es.length ≤ ds.length := by
    rcases Nat.lt_or_ge ds.length es.length with h9 | h9
    · have := cmp_len (a := ds) hn2 h9
      omega
    · exact h9
  subst hval hv2
  clear hN hn2 hnorm
  have HROW : Hid (NRow w base (.slice a ds.length c) ds) := hrow
  have HA2 : Hid (NAt w (.slice a2 es.length c2) es) := hat2
  have HNE : Hid (∀ k, (Value.slice a2 es.length c2).ownBlock = some k → ¬ (Value.slice a ds.length c).ownBlock = some k) := hne
  have hcap : ds.length ≤ c ∧ c ≤ 9223372036854775807 := by
    obtain ⟨a', c', e, hlc, -⟩ := hrow.at
    cases e
    unfold maxLen at hlc
    omega
  clear hrow hat2 hne
  go_enter Tryz.func111, Tryz.ntmps111
  go_wp2
  go_loopw [5, 11] (fun cy i wr => ∃ (k : Nat) (rs : List UInt32) (x : Nat), k ≤ ds.length ∧ i = .int .i64 k ∧ cy = .int .u64 x ∧ x ≤ 1 ∧ Hid (rs.length = k ∧ NRow wr base (.slice a ds.length c) (rs ++ ds.drop k) ∧ valU rs + valU (es.take k) = valU (ds.take k) + B k * x ∧ Kept (fun k => (Value.slice a ds.length c).ownBlock = some k) w wr)) (fun _ i _ => ds.length - (intOf i).toNat)
  case atStart => exact ⟨0, [], 0, Nat.zero_le _, rfl, rfl, by omega, rfl, HROW.out, by simp [valU], Kept.refl _ _⟩
  case round =>
    obtain ⟨k, rs, x, hk, rfl, rfl, hx, hI⟩ := hrel
    obtain ⟨hel, hrow, heq, hkep⟩ := hI.out
    by_cases hlt : k < ds.length
    · have hll : (rs ++ ds.drop k).length = ds.length := by simp; omega
      obtain ⟨d, hd⟩ : ∃ d, d = ds[k] := ⟨_, rfl⟩
      have hrow' : wr.ownsRow base 116 1 (.slice a ds.length c) ds.length (u32s (rs ++ ds.drop k)) := by
        have h9 := hrow
        unfold NRow at h9
        rw [hll] at h9
        exact h9
      have HA2' := HA2.out.kept hkep HNE.out
      obtain ⟨g, rfl⟩ := row_some hrow' (by omega)
      have hdrop : ds.drop k = d :: ds.drop (k + 1) := by rw [hd, List.getElem_cons_drop]
      have hc0 : wr.cell? ⟨g, k, none⟩ = some (.int .u32 d.toNat) := by
        have h9 := hrow'.cells (g := g) rfl k (.int .u32 d.toNat) (by
          rw [hdrop]
          simp [u32s, hel])
        rw [Addr.add_lit, Nat.zero_add] at h9
        exact h9
      have hf0 := (row_cell hrow' (j := k) (by omega)).2
      have hdl : d.toNat < 4294967296 := d.toNat_lt
      have hv1 := take_val hlt
      rw [← hd] at hv1
      have HK2 : Hid (∀ u, Kept (fun k => (Value.slice (some ⟨g, 0, none⟩) ds.length c).ownBlock = some k) w (wr.setCell ⟨g, k, none⟩ u)) := fun u => hkep.setCell (p := ⟨g, k, none⟩) (fun _ => rfl) u
      have HROW2 : Hid (∀ (q : UInt32) (u : Value), u = .int .u32 q.toNat → NRow (wr.setCell ⟨g, k, none⟩ u) base (.slice (some ⟨g, 0, none⟩) ds.length c) (rs ++ [q] ++ ds.drop (k + 1))) := fun q u hu => by
        have h9 := ownsRow_set hrow' (g := g) rfl (i := k) u
        have hl2 : (rs ++ [q] ++ ds.drop (k + 1)).length = ds.length := by simp; omega
        unfold NRow
        rw [hl2]
        have e2 : (u32s (rs ++ ds.drop k)).set k u = u32s (rs ++ [q] ++ ds.drop (k + 1)) := by
          rw [hdrop, hu, ← hel]
          exact set_word rs d q (ds.drop (rs.length + 1))
        rw [e2] at h9
        exact h9
      have HEL : Hid (∀ q : UInt32, (rs ++ [q]).length = k + 1) := fun q => by simp [hel]
      by_cases hle2 : k < es.length
      · obtain ⟨b2, o2, rfl, -, hc2⟩ := HA2'.one k hle2
        obtain ⟨y, hy⟩ : ∃ y, y = es[k].toNat := ⟨_, rfl⟩
        have hyl : y < 4294967296 := by rw [hy]; exact es[k].toNat_lt
        have hv2 := take_val hle2
        rw [← hy] at hc2 hv2
        have HV : Hid (∀ q b' : Nat, q < 4294967296 → d.toNat + 4294967296 * b' = q + x + y → valU (rs ++ [UInt32.ofNat q]) + valU (es.take (k + 1)) = valU (ds.take (k + 1)) + B (k + 1) * b') := fun q b' hq hd' => by
          rw [hv1, hv2]
          exact borrow_step rs x b' d.toNat y q k _ _ hel heq hq hd'
        clear hI hrow heq hkep hd hy hv1 hv2 hel hrow' hdrop HA2' hll
        generalize d.toNat = d at *
        go_wp2
        go_roundw
        case rel =>
          refine ⟨k + 1, rs ++ [UInt32.ofNat ((((d : Int) - x - y) % 4294967296).toNat)], if d < x + y then 1 else 0, by omega, by go_num, ?_, by split <;> omega, HEL.out _, HROW2.out _ _ ?_, HV.out _ _ (by omega) (by split <;> omega), HK2.out _⟩
          · simp only [wrapU]; congr 1; split <;> omega
          · simp only [wrapU]; congr 1; rw [UInt32.toNat_ofNat']; omega
        case measure => simp [intOf]; omega
      · have hv2 : es.take (k + 1) = es.take k := by rw [List.take_of_length_le (by omega), List.take_of_length_le (by omega)]
        have HV : Hid (∀ q b' : Nat, q < 4294967296 → d.toNat + 4294967296 * b' = q + x + 0 → valU (rs ++ [UInt32.ofNat q]) + valU (es.take (k + 1)) = valU (ds.take (k + 1)) + B (k + 1) * b') := fun q b' hq hd' => by
          have := borrow_step rs x b' d.toNat 0 q k _ _ hel heq hq hd'
          rw [hv1, hv2]
          simpa using this
        clear hI hrow heq hkep hd hv1 hv2 hel hrow' hdrop HA2' hll
        generalize d.toNat = d at *
        go_wp2
        go_roundw
        case rel =>
          refine ⟨k + 1, rs ++ [UInt32.ofNat ((((d : Int) - x) % 4294967296).toNat)], if d < x then 1 else 0, by omega, by go_num, ?_, by split <;> omega, HEL.out _, HROW2.out _ _ ?_, HV.out _ _ (by omega) (by split <;> omega), HK2.out _⟩
          · simp only [wrapU]; congr 1; split <;> omega
          · simp only [wrapU]; congr 1; rw [UInt32.toNat_ofNat']; omega
        case measure => simp [intOf]; omega
    · obtain rfl : k = ds.length := by omega
      rw [List.drop_length, List.append_nil] at hrow
      rw [List.take_length, List.take_of_length_le hlen2] at heq
      have hlt := valU_lt rs
      rw [hel] at hlt
      have hx0 : x = 0 := by
        rcases Nat.eq_zero_or_pos x with h9 | h9
        · exact h9
        · have : x = 1 := by omega
          subst this
          omega
      have HV : Hid (valU (trimU rs) = valU ds - valU es) := by
        show _ = _
        rw [valU_trim]
        subst hx0
        simp at heq
        omega
      have HR : Hid (NRow wr base (.slice a rs.length c) rs) := by rw [hel]; exact hrow
      have HK : Hid (Kept (fun k => (Value.slice a ds.length c).ownBlock = some k) w wr) := hkep
      have htr := trimmed_any a c rs wr HR.out.at
      rw [hel] at htr
      have HTR : Hid _ := trim_row HR.out
      clear hI hrow heq hkep hlt hx0 hel
      go_wp2_with (go_at_call 107; refine htr.mono ?_; clear htr; rintro e w4 ⟨rfl, hw4⟩; have hw4 := hw4.symm; subst hw4)
      go_ret
      refine ⟨_, rfl, ⟨_, _, _, rfl, HTR.out, HV.out, norm_trim _⟩, HK.out, fun k hk => ?_⟩
      left
      cases a with
      | none => cases hk
      | some ad => exact hk

end Go.Proofs.YtfckdleahljdeaaGreatDoor.Nu
