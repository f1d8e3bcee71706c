/- Naturals: shifts. -/
import Derived.Test.YtinfnkhghmcelaaDoorN4
import Derived.Laws.BitsAllLaws
namespace Go.Proofs.YtinfnkhghmcelaaDoor
open Go.RowKit Go.Maps

theorem made_words (c : Nat) : madeCells (Value.int .u32 0).cells c = (u32s (List.replicate c 0)).toArray := by
  apply Array.ext
  · simp [size_madeCells, u32s_length]
  · intro i h1 h2
    have e : i % 1 = 0 := by omega
    simp [madeCells, u32s, Value.cells, e]
theorem valU_zeros (n : Nat) : valU (List.replicate n 0) = 0 := by
  induction n with
  | zero => rfl
  | succ n ih => rw [List.replicate_succ, valU, ih]; rfl

set_option maxRecDepth 100000 in
set_option maxHeartbeats 2000000 in
theorem shifted_any (v : Value) (N n : Nat) (w : World) (h : BigAt w v N) (hN : N < B 1000) (hn : n ≤ 30000) :
    Calls Tryd.prog 59 #[v, .int .i64 n] w fun e w' => ∃ v', e = .returned v' ∧ Big w' w.heap.size v' (N * 2 ^ n) ∧ Below w.heap.size w w' := by
  obtain ⟨a, c, ds, rfl, hat, hval, hnorm⟩ := h
  have hlen := len_of_val hnorm (hval ▸ hN)
  clear hnorm hN
  have HA : Hid (NAt w (.slice a ds.length c) ds) := hat
  clear hat
  obtain ⟨i0, hi0, hz0, hz1, hz2⟩ := info_parts infoU32
  obtain ⟨z, hz⟩ : ∃ z, z = n / 32 := ⟨_, rfl⟩
  obtain ⟨s, hs⟩ : ∃ s, s = n % 32 := ⟨_, rfl⟩
  have hmk := run_make (P := Tryd.prog) w 66 82 i0 _ Tryd.underlying66 hi0 hz0 .i64 .i64 ((n : Int) / 32) ((n : Int) / 32 + (ds.length : Int) + 1) (by omega) (by omega) (by rw [hz2]; omega) (by omega)
  have e1 : ((n : Int) / 32).toNat = z := by omega
  have e2 : ((n : Int) / 32 + (ds.length : Int) + 1).toNat = z + ds.length + 1 := by omega
  rw [e1, e2, hz1, Nat.mul_one, made_words] at hmk
  obtain ⟨W1, hW1⟩ : ∃ W1, w.alloc (.cells (u32s (List.replicate (z + ds.length + 1) 0)).toArray 82) = W1 := ⟨_, rfl⟩
  rw [hW1] at hmk
  have hb1 : Below w.heap.size w W1 := by rw [← hW1]; exact (Below.refl _ _).alloc (Nat.le_refl _) _
  have hrow : W1.ownsRow w.heap.size 82 1 (.slice (some ⟨w.heap.size, 0, none⟩) z (z + ds.length + 1)) z (u32s (List.replicate z 0)) := by
    refine ⟨by simp [u32s_length], Or.inr ⟨_, z + ds.length + 1, (u32s (List.replicate (z + ds.length + 1) 0)).toArray, rfl, Nat.le_refl _, by rw [← hW1]; exact heap_alloc_new w _, by omega, by unfold maxLen; omega, by simp [u32s_length], ?_⟩⟩
    simp only [u32s, List.map_replicate, Nat.mul_one]
    rw [List.take_replicate]
    congr 1
    omega
  have HROW : Hid _ := hrow
  have HB1 : Hid (Below w.heap.size w W1) := hb1
  have hsm : (n : Int) % 32 = (s : Int) := by omega
  have hsl : s < 32 := by omega
  have HZ : Hid (z = n / 32) := hz
  have HS : Hid (s = n % 32) := hs
  have hzl : z ≤ 1000 := by omega
  clear hrow hb1 hW1 e1 e2 hz0 hz1 hz2 hi0 hz hs
  go_enter Tryd.func59, Tryd.ntmps59
  go_wp2
  go_loopw [5, 6, 20] (fun o cy i wr => ∃ (k : Nat) (rs : List UInt32) (x : Nat) (ao : Option Addr) (co : Nat), k ≤ ds.length ∧ i = .int .i64 k ∧ cy = .int .u64 x ∧ x < 2 ^ s ∧ o = .slice ao (z + k) co ∧ Hid (rs.length = k ∧ wr.ownsRow w.heap.size 82 1 (.slice ao (z + k) co) (z + k) (u32s (List.replicate z 0 ++ rs)) ∧ valU rs + B k * x = valU (ds.take k) * 2 ^ s ∧ Below w.heap.size w wr)) (fun _ _ i _ => ds.length - (intOf i).toNat)
  case atStart => exact ⟨0, [], 0, _, _, Nat.zero_le _, rfl, rfl, Nat.pow_pos (by decide), rfl, rfl, by rw [List.append_nil]; exact HROW.out, by simp [valU, B_zero], HB1.out⟩
  case round =>
    obtain ⟨k, rs, x, ao, co, hk, rfl, rfl, hx, rfl, hI⟩ := hrel
    obtain ⟨hrl, hrow, heq, hbl⟩ := hI.out
    have HR : Hid (wr.ownsRow w.heap.size 82 1 (.slice ao (z + k) co) (z + k) (u32s (List.replicate z 0 ++ rs))) := hrow
    have HBL : Hid (Below w.heap.size w wr) := hbl
    have hsz := hbl.size
    by_cases hlt : k < ds.length
    · obtain ⟨b1, o1, rfl, hc1⟩ := word_at HA.out k hlt hbl
      obtain ⟨d, hd⟩ : ∃ d, d = ds[k].toNat := ⟨_, rfl⟩
      have hdl : d < 4294967296 := by rw [hd]; exact ds[k].toNat_lt
      have hv1 := take_val hlt
      rw [← hd] at hc1 hv1
      obtain ⟨p, hp⟩ : ∃ p, p = d * 2 ^ s := ⟨_, rfl⟩
      have hpow : 2 ^ s ≤ 2147483648 := Nat.pow_le_pow_right (n := 2) (by decide) (show s ≤ 31 by omega)
      have hpow0 : 0 < 2 ^ s := Nat.pow_pos (by decide)
      have hpl : p ≤ 4294967295 * 2147483648 := by rw [hp]; exact Nat.mul_le_mul (by omega) hpow
      have hx2 : x < 2147483648 := by omega
      have hshl : IntKind.u64.wrap ((d : Int) * 2 ^ (n % 32)) = (p : Int) := by
        have e10 : (d : Int) * 2 ^ s = (p : Int) := by rw [hp]; simp
        rw [← HS.out, e10, IntKind.wrap_u64, Int.emod_eq_of_lt (by omega) (by omega)]
      have hor : bits .or .u64 (x : Int) (p : Int) = ((x + p : Nat) : Int) := by
        rw [u64_or_nat x p (by omega) (by omega)]
        have e11 : p ||| x = p + x := nat_join s p x (by rw [hp]; exact Nat.mul_mod_left _ _) hx
        rw [Nat.or_comm, e11, Nat.add_comm]
      have HV : Hid (valU (rs ++ [UInt32.ofNat (x + p)]) + B (k + 1) * ((x + p) / 4294967296) = valU (ds.take (k + 1)) * 2 ^ s) := by
        show _ = _
        rw [carry_step rs x p k _ hrl heq, hv1, Nat.add_mul, hp, Nat.mul_assoc]
      have HX : Hid ((x + p) / 4294967296 < 2 ^ s) := by
        show _ < _
        rw [Nat.div_lt_iff_lt_mul (by decide)]
        have h9 : p ≤ 4294967295 * 2 ^ s := by rw [hp]; exact Nat.mul_le_mul_right _ (by omega)
        omega
      have HL : Hid ((rs ++ [UInt32.ofNat (x + p)]).length = k + 1) := by show _ = _; simp [hrl]
      have HAP : Hid (List.replicate z 0 ++ rs ++ [UInt32.ofNat (x + p)] = List.replicate z 0 ++ (rs ++ [UInt32.ofNat (x + p)])) := List.append_assoc _ _ _
      clear hI hrow heq hbl hp hd hv1 hrl hpow hpow0 hx hsm
      generalize (2 : Nat) ^ s = P2 at *
      go_wp2_with (at_builtin; refine wpList_append_word _ rfl _ _ rfl w.heap.size ao (z + k) co _ rfl (World.ownsRow.alloc HR.out _) wr.heap.size (((x : Int) + p) % 4294967296) (by omega) (by omega) rfl (heap_alloc_new wr _) (by omega) (by simp; omega) ?_; intro a3 c3 w3 hr3 hg3 hloc3)
      go_roundw
      case rel =>
        have e1 : (((x : Int) + p) % 4294967296).toNat = (x + p) % 4294967296 := by omega
        rw [e1, ofNat_mod, HAP.out] at hr3
        refine ⟨k + 1, rs ++ [UInt32.ofNat (x + p)], (x + p) / 4294967296, a3, c3, by omega, by go_num, by first | (congr 1; omega) | congr 1, HX.out, rfl, HL.out, hr3, HV.out, ?_⟩
        exact (HBL.out.alloc hsz _).grown hg3 (by simp; omega) (fun j hj => (HR.out.lt j hj).1)
      case measure => simp [intOf]; omega
    · obtain rfl : k = ds.length := by omega
      rw [List.take_length] at heq
      have hx2 : x < 4294967296 := by
        have : 2 ^ s ≤ 2147483648 := Nat.pow_le_pow_right (n := 2) (by decide) (show s ≤ 31 by omega)
        omega
      have hBz : B z = 2 ^ (32 * z) := by
        unfold B
        rw [Nat.pow_mul]
      have HV : Hid (valU (trimU (List.replicate z 0 ++ rs ++ [UInt32.ofNat x])) = N * 2 ^ n) := by
        show _ = _
        rw [valU_trim, List.append_assoc, valU_append, valU_zeros, valU_snoc, hrl, UInt32.toNat_ofNat', Nat.mod_eq_of_lt (show x < 2 ^ 32 by omega), heq, hval, List.length_replicate, hBz, Nat.zero_add, Nat.mul_left_comm, ← Nat.pow_add]
        congr 2
        have h1 := HZ.out
        have h2 := HS.out
        omega
      have HL : Hid ((List.replicate z 0 ++ rs ++ [UInt32.ofNat x]).length = z + ds.length + 1) := by show _ = _; simp [hrl]; omega
      clear hI hrow heq hbl hrl hx hsm hBz
      go_wp2_with (first
        | (at_builtin; refine wpList_append_word _ rfl _ _ rfl w.heap.size ao (z + ds.length) co _ rfl (World.ownsRow.alloc HR.out _) wr.heap.size (x : Int) (by omega) (by omega) rfl (heap_alloc_new wr _) (by omega) (by simp; omega) ?_; intro a3 c3 w3 hr3 hg3 hloc3; rw [Int.toNat_natCast] at hr3; have HB3 : Hid (Below w.heap.size w w3) := (HBL.out.alloc hsz _).grown hg3 (by simp; omega) (fun j hj => (HR.out.lt j hj).1); have HR3 : Hid (NRow w3 w.heap.size (.slice a3 (List.replicate z 0 ++ rs ++ [UInt32.ofNat x]).length c3) (List.replicate z 0 ++ rs ++ [UInt32.ofNat x])) := (by have h9 := hr3; unfold NRow; rw [HL.out]; exact h9); have htr := trimmed_any a3 c3 (List.replicate z 0 ++ rs ++ [UInt32.ofNat x]) w3 HR3.out.at; rw [HL.out] at htr; clear hr3 hg3)
        | (go_at_call 74; refine htr.mono ?_; clear htr; rintro e w4 ⟨rfl, hw4⟩; have hw4 := hw4.symm; subst hw4))
      go_ret
      have h1 := HV.out
      have h2 := HR3.out
      rw [List.append_assoc] at h1 h2
      exact ⟨_, rfl, ⟨_, _, _, rfl, trim_row h2, h1, norm_trim _⟩, HB3.out⟩

end Go.Proofs.YtinfnkhghmcelaaDoor
