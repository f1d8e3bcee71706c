/- Texts that belong together. -/
import Derived.Test.YtfckdleahljdeaaGreatDoorMN2
import Derived.Laws.BitsAllLaws
import Derived.Test.YtfckdleahljdeaaGreatDoorSn
/- Naturals: shifts. -/
namespace Go.Proofs.YtfckdleahljdeaaGreatDoor.Nu
open Go.RowKit Go.Maps

theorem made_words (c : Nat) : madeCells (Value.int .u32 0).cells c = (u32s (List.replicate c 0)).toArray := by
  apply Array.ext
  · simp [size_madeCells, u32s_length]
  · intro i h1 h2
    have e : i % 1 = 0 := by omega
    simp [madeCells, u32s, Value.cells, e]
theorem valU_zeros (n : Nat) : valU (List.replicate n 0) = 0 := by
  induction n with
  | zero => rfl
  | succ n ih => rw [List.replicate_succ, valU, ih]; rfl

set_option maxRecDepth 100000 in
set_option maxHeartbeats 2000000 in
theorem shifted_any (v : Value) (N n : Nat) (w : World) (h : BigAt w v N) (hN : N < B 1000) (hn : n ≤ 30000) :
    Calls Tryz.prog 109 #[v, .int .i64 n] w fun e w' => ∃ v', e = .returned v' ∧ Big w' w.heap.size v' (N * 2 ^ n) ∧ Below w.heap.size w w' := by
  obtain ⟨a, c, ds, rfl, hat, hval, hnorm⟩ := h
  have hlen := len_of_val hnorm (hval ▸ hN)
  clear hnorm hN
  have HA : Hid (NAt w (.slice a ds.length c) ds) := hat
  clear hat
  obtain ⟨i0, hi0, hz0, hz1, hz2⟩ := info_parts infoU32
  obtain ⟨z, hz⟩ : ∃ z, z = n / 32 := ⟨_, rfl⟩
  obtain ⟨s, hs⟩ : ∃ s, s = n % 32 := ⟨_, rfl⟩
  have hmk := run_make (P := Tryz.prog) w 127 116 i0 _ Tryz.underlying127 hi0 hz0 .i64 .i64 ((n : Int) / 32) ((n : Int) / 32 + (ds.length : Int) + 1) (by omega) (by omega) (by rw [hz2]; omega) (by omega)
  have e1 : ((n : Int) / 32).toNat = z := by omega
  have e2 : ((n : Int) / 32 + (ds.length : Int) + 1).toNat = z + ds.length + 1 := by omega
  rw [e1, e2, hz1, Nat.mul_one, made_words] at hmk
  obtain ⟨W1, hW1⟩ : ∃ W1, w.alloc (.cells (u32s (List.replicate (z + ds.length + 1) 0)).toArray 116) = W1 := ⟨_, rfl⟩
  rw [hW1] at hmk
  have hb1 : Below w.heap.size w W1 := by rw [← hW1]; exact (Below.refl _ _).alloc (Nat.le_refl _) _
  have hrow : W1.ownsRow w.heap.size 116 1 (.slice (some ⟨w.heap.size, 0, none⟩) z (z + ds.length + 1)) z (u32s (List.replicate z 0)) := by
    refine ⟨by simp [u32s_length], Or.inr ⟨_, z + ds.length + 1, (u32s (List.replicate (z + ds.length + 1) 0)).toArray, rfl, Nat.le_refl _, by rw [← hW1]; exact heap_alloc_new w _, by omega, by unfold maxLen; omega, by simp [u32s_length], ?_⟩⟩
    simp only [u32s, List.map_replicate, Nat.mul_one]
    rw [List.take_replicate]
    congr 1
    omega
  have HROW : Hid _ := hrow
  have HB1 : Hid (Below w.heap.size w W1) := hb1
  have hsm : (n : Int) % 32 = (s : Int) := by omega
  have hsl : s < 32 := by omega
  have HZ : Hid (z = n / 32) := hz
  have HS : Hid (s = n % 32) := hs
  have hzl : z ≤ 1000 := by omega
  clear hrow hb1 hW1 e1 e2 hz0 hz1 hz2 hi0 hz hs
  go_enter Tryz.func109, Tryz.ntmps109
  go_wp2
  go_loopw [5, 6, 20] (fun o cy i wr => ∃ (k : Nat) (rs : List UInt32) (x : Nat) (ao : Option Addr) (co : Nat), k ≤ ds.length ∧ i = .int .i64 k ∧ cy = .int .u64 x ∧ x < 2 ^ s ∧ o = .slice ao (z + k) co ∧ Hid (rs.length = k ∧ wr.ownsRow w.heap.size 116 1 (.slice ao (z + k) co) (z + k) (u32s (List.replicate z 0 ++ rs)) ∧ valU rs + B k * x = valU (ds.take k) * 2 ^ s ∧ Below w.heap.size w wr)) (fun _ _ i _ => ds.length - (intOf i).toNat)
  case atStart => exact ⟨0, [], 0, _, _, Nat.zero_le _, rfl, rfl, Nat.pow_pos (by decide), rfl, rfl, by rw [List.append_nil]; exact HROW.out, by simp [valU, B_zero], HB1.out⟩
  case round =>
    obtain ⟨k, rs, x, ao, co, hk, rfl, rfl, hx, rfl, hI⟩ := hrel
    obtain ⟨hrl, hrow, heq, hbl⟩ := hI.out
    have HR : Hid (wr.ownsRow w.heap.size 116 1 (.slice ao (z + k) co) (z + k) (u32s (List.replicate z 0 ++ rs))) := hrow
    have HBL : Hid (Below w.heap.size w wr) := hbl
    have hsz := hbl.size
    by_cases hlt : k < ds.length
    · obtain ⟨b1, o1, rfl, hc1⟩ := word_at HA.out k hlt hbl
      obtain ⟨d, hd⟩ : ∃ d, d = ds[k].toNat := ⟨_, rfl⟩
      have hdl : d < 4294967296 := by rw [hd]; exact ds[k].toNat_lt
      have hv1 := take_val hlt
      rw [← hd] at hc1 hv1
      obtain ⟨p, hp⟩ : ∃ p, p = d * 2 ^ s := ⟨_, rfl⟩
      have hpow : 2 ^ s ≤ 2147483648 := Nat.pow_le_pow_right (n := 2) (by decide) (show s ≤ 31 by omega)
      have hpow0 : 0 < 2 ^ s := Nat.pow_pos (by decide)
      have hpl : p ≤ 4294967295 * 2147483648 := by rw [hp]; exact Nat.mul_le_mul (by omega) hpow
      have hx2 : x < 2147483648 := by omega
      have hshl : IntKind.u64.wrap ((d : Int) * 2 ^ (n % 32)) = (p : Int) := by
        have e10 : (d : Int) * 2 ^ s = (p : Int) := by rw [hp]; simp
        rw [← HS.out, e10, IntKind.wrap_u64, Int.emod_eq_of_lt (by omega) (by omega)]
      have hor : bits .or .u64 (x : Int) (p : Int) = ((x + p : Nat) : Int) := by
        rw [u64_or_nat x p (by omega) (by omega)]
        have e11 : p ||| x = p + x := nat_join s p x (by rw [hp]; exact Nat.mul_mod_left _ _) hx
        rw [Nat.or_comm, e11, Nat.add_comm]
      have HV : Hid (valU (rs ++ [UInt32.ofNat (x + p)]) + B (k + 1) * ((x + p) / 4294967296) = valU (ds.take (k + 1)) * 2 ^ s) := by
        show _ = _
        rw [carry_step rs x p k _ hrl heq, hv1, Nat.add_mul, hp, Nat.mul_assoc]
      have HX : Hid ((x + p) / 4294967296 < 2 ^ s) := by
        show _ < _
        rw [Nat.div_lt_iff_lt_mul (by decide)]
        have h9 : p ≤ 4294967295 * 2 ^ s := by rw [hp]; exact Nat.mul_le_mul_right _ (by omega)
        omega
      have HL : Hid ((rs ++ [UInt32.ofNat (x + p)]).length = k + 1) := by show _ = _; simp [hrl]
      have HAP : Hid (List.replicate z 0 ++ rs ++ [UInt32.ofNat (x + p)] = List.replicate z 0 ++ (rs ++ [UInt32.ofNat (x + p)])) := List.append_assoc _ _ _
      clear hI hrow heq hbl hp hd hv1 hrl hpow hpow0 hx hsm
      generalize (2 : Nat) ^ s = P2 at *
      go_wp2_with (at_builtin; refine wpList_append_word _ rfl _ _ rfl w.heap.size ao (z + k) co _ rfl (World.ownsRow.alloc HR.out _) wr.heap.size (((x : Int) + p) % 4294967296) (by omega) (by omega) rfl (heap_alloc_new wr _) (by omega) (by simp; omega) ?_; intro a3 c3 w3 hr3 hg3 hloc3)
      go_roundw
      case rel =>
        have e1 : (((x : Int) + p) % 4294967296).toNat = (x + p) % 4294967296 := by omega
        rw [e1, ofNat_mod, HAP.out] at hr3
        refine ⟨k + 1, rs ++ [UInt32.ofNat (x + p)], (x + p) / 4294967296, a3, c3, by omega, by go_num, by first | (congr 1; omega) | congr 1, HX.out, rfl, HL.out, hr3, HV.out, ?_⟩
        exact (HBL.out.alloc hsz _).grown hg3 (by simp; omega) (fun j hj => (HR.out.lt j hj).1)
      case measure => simp [intOf]; omega
    · obtain rfl : k = ds.length := by omega
      rw [List.take_length] at heq
      have hx2 : x < 4294967296 := by
        have : 2 ^ s ≤ 2147483648 := Nat.pow_le_pow_right (n := 2) (by decide) (show s ≤ 31 by omega)
        omega
      have hBz : B z = 2 ^ (32 * z) := by
        unfold B
        rw [Nat.pow_mul]
      have HV : Hid (valU (trimU (List.replicate z 0 ++ rs ++ [UInt32.ofNat x])) = N * 2 ^ n) := by
        show _ = _
        rw [valU_trim, List.append_assoc, valU_append, valU_zeros, valU_snoc, hrl, UInt32.toNat_ofNat', Nat.mod_eq_of_lt (show x < 2 ^ 32 by omega), heq, hval, List.length_replicate, hBz, Nat.zero_add, Nat.mul_left_comm, ← Nat.pow_add]
        congr 2
        have h1 := HZ.out
        have h2 := HS.out
        omega
      have HL : Hid ((List.replicate z 0 ++ rs ++ [UInt32.ofNat x]).length = z + ds.length + 1) := by show _ = _; simp [hrl]; omega
      clear hI hrow heq hbl hrl hx hsm hBz
      go_wp2_with (first
        | (at_builtin; refine wpList_append_word _ rfl _ _ rfl w.heap.size ao (z + ds.length) co _ rfl (World.ownsRow.alloc HR.out _) wr.heap.size (x : Int) (by omega) (by omega) rfl (heap_alloc_new wr _) (by omega) (by simp; omega) ?_; intro a3 c3 w3 hr3 hg3 hloc3; rw [Int.toNat_natCast] at hr3; have HB3 : Hid (Below w.heap.size w w3) := (HBL.out.alloc hsz _).grown hg3 (by simp; omega) (fun j hj => (HR.out.lt j hj).1); have HR3 : Hid (NRow w3 w.heap.size (.slice a3 (List.replicate z 0 ++ rs ++ [UInt32.ofNat x]).length c3) (List.replicate z 0 ++ rs ++ [UInt32.ofNat x])) := (by have h9 := hr3; unfold NRow; rw [HL.out]; exact h9); have htr := trimmed_any a3 c3 (List.replicate z 0 ++ rs ++ [UInt32.ofNat x]) w3 HR3.out.at; rw [HL.out] at htr; clear hr3 hg3)
        | (go_at_call 107; refine htr.mono ?_; clear htr; rintro e w4 ⟨rfl, hw4⟩; have hw4 := hw4.symm; subst hw4))
      go_ret
      have h1 := HV.out
      have h2 := HR3.out
      rw [List.append_assoc] at h1 h2
      exact ⟨_, rfl, ⟨_, _, _, rfl, trim_row h2, h1, norm_trim _⟩, HB3.out⟩

end Go.Proofs.YtfckdleahljdeaaGreatDoor.Nu

/- Quotients as floats. -/
namespace Go.Proofs.YtfckdleahljdeaaGreatDoor.Nu
open Go.RowKit Go.Maps

theorem bitLenAux_log : ∀ (f x : Nat), x ≠ 0 → x < 2 ^ f → Lib.bitLenAux f x = x.log2 + 1
  | 0, x, h0, h => by simp at h; omega
  | f + 1, x, h0, h => by
    unfold Lib.bitLenAux
    rw [if_neg h0, Nat.log2_def]
    by_cases h2 : 2 ≤ x
    · rw [if_pos h2, bitLenAux_log f (x / 2) (by omega) (by rw [Nat.pow_succ] at h; omega)]
      omega
    · have : x = 1 := by omega
      subst this
      simp
      cases f <;> simp [Lib.bitLenAux]
theorem bitLen_log {x : Nat} (h0 : x ≠ 0) (h : x < 18446744073709551616) : Lib.bitLen x = x.log2 + 1 := bitLenAux_log 64 x h0 h
theorem log_word {ds : List UInt32} {x : UInt32} (hx : x ≠ 0) : (valU (ds ++ [x])).log2 = 32 * ds.length + x.toNat.log2 := by
  have hx0 : x.toNat ≠ 0 := fun e => hx (UInt32.toNat_inj.1 (by simpa using e))
  have h1 := valU_lt ds
  have hB : B ds.length = 2 ^ (32 * ds.length) := by unfold B; rw [Nat.pow_mul]
  have hl := (Nat.log2_eq_iff hx0).1 rfl
  rw [valU_snoc]
  have hpos : 0 < B ds.length * x.toNat := Nat.mul_pos (B_pos _) (by omega)
  rw [Nat.log2_eq_iff (by omega)]
  rw [hB] at h1 hpos ⊢
  constructor
  · rw [Nat.pow_add]
    have := Nat.mul_le_mul_left (2 ^ (32 * ds.length)) hl.1
    omega
  · rw [Nat.add_assoc, Nat.pow_add]
    have : 2 ^ (32 * ds.length) * (x.toNat + 1) ≤ 2 ^ (32 * ds.length) * 2 ^ (x.toNat.log2 + 1) := Nat.mul_le_mul_left _ hl.2
    rw [Nat.mul_add] at this
    omega

set_option maxRecDepth 100000 in
set_option maxHeartbeats 1000000 in
theorem length_any (v : Value) (N : Nat) (w : World) (h : BigAt w v N) (hN : N < B 1000) (h0 : N ≠ 0) :
    Calls Tryz.prog 108 #[v] w fun e w' => e = .returned (.int .i64 ((N.log2 + 1 : Nat) : Int)) ∧ w' = w := by
  obtain ⟨a, c, ds, rfl, hat, hval, hnorm⟩ := h
  have hlen := len_of_val hnorm (hval ▸ hN)
  have hne : ds ≠ [] := fun e => h0 (by rw [← hval, e]; rfl)
  obtain ⟨t, x, rfl⟩ : ∃ t x, ds = t ++ [x] := ⟨ds.dropLast, ds.getLast hne, (List.dropLast_concat_getLast hne).symm⟩
  have hx : x ≠ 0 := hnorm x (by simp)
  have hxl : x.toNat < 4294967296 := x.toNat_lt
  have hx0 : x.toNat ≠ 0 := fun e => hx (UInt32.toNat_inj.1 (by simpa using e))
  have hlog := log_word (ds := t) hx
  have hl : (t ++ [x]).length = t.length + 1 := by simp
  obtain ⟨b, o, rfl, hb, hc⟩ := hat.one t.length (by simp)
  have e1 : (t ++ [x])[t.length] = x := by simp
  rw [e1] at hc
  rw [hl] at hlen ⊢
  obtain ⟨L, hL⟩ : ∃ L, L = Lib.bitLen x.toNat := ⟨_, rfl⟩
  have hLl : L ≤ 32 := by rw [hL]; exact Any.bitLen_le32 x.toNat (by omega) (by omega)
  have hlz : Calls Tryz.prog 133 #[.int .u32 x.toNat] w fun e w' => e = .returned (.int .i64 (32 - (L : Int))) ∧ w' = w := by rw [hL]; exact Any.bits_LeadingZeros32 Tryz.lays133 x.toNat w (by omega) (by omega)
  have HR : Hid (((N.log2 + 1 : Nat) : Int) = 32 * ((t.length : Int) + 1) - (32 - (L : Int))) := by
    show _ = _
    rw [← hval, hlog, hL, bitLen_log hx0 (by omega)]
    omega
  clear hlog hL hval hnorm hat h0 hN
  generalize x.toNat = y at *
  go_enter Tryz.func108, Tryz.ntmps108
  go_wp2_with (go_at_call 133; refine hlz.mono ?_; clear hlz; rintro e w1 ⟨rfl, hw1⟩; have hw1 := hw1.symm; subst hw1)
  go_ret
  exact ⟨by rw [HR.out]; rfl, rfl⟩

def divL (D : Nat) : Nat → Nat → Nat → Nat × Nat
  | 0, A, c => (A, c)
  | n + 1, A, c => if D ≤ A then divL D n ((A - D) * 2) (c * 2 + 1) else divL D n (A * 2) (c * 2)
def roundQ (D : Nat) (r : Nat × Nat) : Nat := if D < r.1 ∨ (r.1 = D ∧ r.2 % 2 = 1) then r.2 + 1 else r.2
def powQ (t : Int) : Int := max (t - 52) (-1074)
def quotB (A D : Nat) (t : Int) : Nat := if t < -1075 then 0 else min (roundQ D (divL D (t - powQ t + 1).toNat A 0) + (powQ t + 1074).toNat * 4503599627370496) 9218868437227405312
def quotN (A D : Nat) : Nat :=
  if A * 2 ^ ((D.log2 : Int) - A.log2).toNat < D * 2 ^ ((A.log2 : Int) - D.log2).toNat then quotB (A * 2 ^ ((D.log2 : Int) - A.log2).toNat * 2) (D * 2 ^ ((A.log2 : Int) - D.log2).toNat) ((A.log2 : Int) - D.log2 - 1)
  else quotB (A * 2 ^ ((D.log2 : Int) - A.log2).toNat) (D * 2 ^ ((A.log2 : Int) - D.log2).toNat) ((A.log2 : Int) - D.log2)

theorem cmp_ge {N M : Nat} (h : M ≤ N) : 0 ≤ cmpN N M := by
  unfold cmpN
  rw [if_neg (by omega)]
  split <;> omega
theorem cmp_lt {N M : Nat} (h : N < M) : cmpN N M = -1 := by
  unfold cmpN
  rw [if_pos h]
theorem cmp_gt {N M : Nat} (h : M < N) : cmpN N M = 1 := by
  unfold cmpN
  rw [if_neg (by omega), if_neg (by omega)]
theorem cmp_eq (N : Nat) : cmpN N N = 0 := by
  unfold cmpN
  rw [if_neg (by omega), if_pos rfl]
theorem ret_u64 {a b : Int} (h : a = b) : Ending.returned (.int .u64 a) = .returned (.int .u64 b) := by rw [h]
theorem fin_c {c e Q : Nat} (h : Q = min (c + e * 4503599627370496) 9218868437227405312) : min ((c : Int) + (e : Int) * 4503599627370496) 9218868437227405312 = (Q : Int) := by
  rw [h]
  omega
theorem fin_c1 {c e Q : Nat} (h : Q = min ((c + 1) + e * 4503599627370496) 9218868437227405312) : min ((c : Int) + 1 + (e : Int) * 4503599627370496) 9218868437227405312 = (Q : Int) := by
  rw [h]
  omega
theorem Big.drewN {w : World} {base N : Nat} {v : Value} (h : Big w base v N) (q : Nat) : Big (w.drewN q) base v N := h.below (below_drewN (Below.refl _ _) q)
theorem Big.base {w : World} {base base' N : Nat} {v : Value} (h : Big w base v N) (hb : base' ≤ base) : Big w base' v N := by
  obtain ⟨a, c, ds, e, h1, h2, h3⟩ := h
  exact ⟨a, c, ds, e, row_mono h1 hb, h2, h3⟩
/-- Behind a step on v another natural is still there, and v's new block is not its. -/
theorem Big.step {w w' : World} {base N : Nat} {v v' u : Value} (h : Big w base u N) (hs : Step w w' v v') (hne : ∀ k, u.ownBlock = some k → ¬ v.ownBlock = some k) : Big w' base u N ∧ ∀ k, u.ownBlock = some k → ¬ v'.ownBlock = some k := by
  refine ⟨h.kept hs.1 hne, fun k hk hk' => ?_⟩
  rcases hs.2 k hk' with h1 | h1
  · exact hne k hk h1
  · have := (h.lt k hk).2
    omega
theorem Step.below {w w' : World} {v v' : Value} {base N : Nat} (hs : Step w w' v v') (h : Big w base v N) (hb : base ≤ w.heap.size) : Below base w w' := hs.1.toBelow hb (fun i hi => (h.lt i hi).1)
theorem cnt_lt (j c : Nat) (h : c < 2 ^ j) (hj : j ≤ 60) : c < 1152921504606846976 := Nat.lt_of_lt_of_le h (Nat.pow_le_pow_right (n := 2) (by decide) hj)

theorem log_le {A m : Nat} (h : A < B m) (h0 : A ≠ 0) : A.log2 < 32 * m := by
  have h9 := (Nat.log2_eq_iff h0).1 rfl
  have hB : B m = 2 ^ (32 * m) := by unfold B; rw [Nat.pow_mul]
  rw [hB] at h
  exact (Nat.pow_lt_pow_iff_right (by decide)).1 (Nat.lt_of_le_of_lt h9.1 h)
/-- Both shifted to one length, the one is less than twice the other. -/
theorem level {A D : Nat} (hA : A ≠ 0) (hD : D ≠ 0) : A * 2 ^ ((D.log2 : Int) - A.log2).toNat < 2 * (D * 2 ^ ((A.log2 : Int) - D.log2).toNat) := by
  have h1 := (Nat.log2_eq_iff hA).1 rfl
  have h2 := (Nat.log2_eq_iff hD).1 rfl
  rcases Nat.le_total A.log2 D.log2 with h | h
  · have e1 : ((D.log2 : Int) - A.log2).toNat = D.log2 - A.log2 := by omega
    have e2 : ((A.log2 : Int) - D.log2).toNat = 0 := by omega
    rw [e1, e2, Nat.pow_zero, Nat.mul_one]
    have h3 : A * 2 ^ (D.log2 - A.log2) < 2 ^ (A.log2 + 1) * 2 ^ (D.log2 - A.log2) := Nat.mul_lt_mul_of_pos_right h1.2 (Nat.pow_pos (by decide))
    rw [← Nat.pow_add, show A.log2 + 1 + (D.log2 - A.log2) = D.log2 + 1 by omega, Nat.pow_succ] at h3
    omega
  · have e1 : ((D.log2 : Int) - A.log2).toNat = 0 := by omega
    have e2 : ((A.log2 : Int) - D.log2).toNat = A.log2 - D.log2 := by omega
    rw [e1, e2, Nat.pow_zero, Nat.mul_one]
    have h3 : 2 ^ D.log2 * 2 ^ (A.log2 - D.log2) ≤ D * 2 ^ (A.log2 - D.log2) := Nat.mul_le_mul_right _ h2.1
    rw [← Nat.pow_add, show D.log2 + (A.log2 - D.log2) = A.log2 by omega] at h3
    have := h1.2
    rw [Nat.pow_succ] at this
    omega
theorem B_add (a b : Nat) : B a * B b = B (a + b) := by unfold B; rw [← Nat.pow_add]
theorem pow_le_B {k m : Nat} (h : k ≤ 32 * m) : 2 ^ k ≤ B m := by
  have hB : B m = 2 ^ (32 * m) := by unfold B; rw [Nat.pow_mul]
  rw [hB]
  exact Nat.pow_le_pow_right (by decide) h
theorem small_shift {D k : Nat} (hD : D < B 400) (hk : k ≤ 12800) : 2 * (D * 2 ^ k) < B 999 := by
  have h1 : D * 2 ^ k ≤ B 400 * 2 ^ k := Nat.mul_le_mul_right _ (by omega)
  have h2 : 2 ^ k ≤ B 400 := pow_le_B hk
  have h3 : B 400 * 2 ^ k ≤ B 400 * B 400 := Nat.mul_le_mul_left _ h2
  have h4 : B 400 * B 400 = B 800 := B_add 400 400
  have h5 : 2 * B 800 < B 999 := by
    have e : B 999 = B 800 * B 199 := (B_add 800 199).symm
    have h6 : 4294967296 ≤ B 199 := by
      have := B_mono (show 1 ≤ 199 by decide)
      exact this
    have h7 := B_pos 800
    rw [e]
    have h8 : B 800 * 4294967296 ≤ B 800 * B 199 := Nat.mul_le_mul_left _ h6
    omega
  omega

end Go.Proofs.YtfckdleahljdeaaGreatDoor.Nu
