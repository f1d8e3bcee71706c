/- Texts that belong together. -/
import Derived.Test.YtinfnkhghmcelaaDoorMHe
import Derived.Test.YtinfnkhghmcelaaDoorN3
import Derived.Laws.BitsAllLaws
/- The document's naturals: sums (pure, and the walk). -/
namespace Go.Proofs.YtinfnkhghmcelaaDoor
open Go.RowKit Go.Maps

def addQ : List Nat → List Nat → Nat → List Nat
  | [], [], c => digQ c
  | a :: s, [], c => (c + a) % 10000 :: addQ s [] ((c + a) / 10000)
  | [], b :: t, c => (c + b) % 10000 :: addQ [] t ((c + b) / 10000)
  | a :: s, b :: t, c => (c + a + b) % 10000 :: addQ s t ((c + a + b) / 10000)
theorem digQ_step {N d M : Nat} (h : 0 < N) (h1 : N % 10000 = d) (h2 : N / 10000 = M) : digQ N = d :: digQ M := by
  rw [digQ_pos h, h1, h2]
theorem addQ_dig : ∀ (k A B c : Nat), A + B ≤ k → c ≤ 1 → addQ (digQ A) (digQ B) c = digQ (A + B + c)
  | k, A, B, c, h, hc => by
    by_cases hA : A = 0
    · by_cases hB : B = 0
      · subst hA hB
        rw [digQ_zero, addQ, Nat.add_zero, Nat.zero_add]
      · subst hA
        rw [digQ_zero, digQ_pos (n := B) (by omega), addQ]
        cases k with
        | zero => omega
        | succ k =>
          have ih := addQ_dig k 0 (B / 10000) ((c + B % 10000) / 10000) (by omega) (by omega)
          rw [digQ_zero] at ih
          rw [ih]
          exact (digQ_step (by omega) (by omega) (by omega)).symm
    · by_cases hB : B = 0
      · subst hB
        rw [digQ_zero, digQ_pos (n := A) (by omega), addQ]
        cases k with
        | zero => omega
        | succ k =>
          have ih := addQ_dig k (A / 10000) 0 ((c + A % 10000) / 10000) (by omega) (by omega)
          rw [digQ_zero] at ih
          rw [ih]
          exact (digQ_step (by omega) (by omega) (by omega)).symm
      · rw [digQ_pos (n := A) (by omega), digQ_pos (n := B) (by omega), addQ]
        cases k with
        | zero => omega
        | succ k =>
          have ih := addQ_dig k (A / 10000) (B / 10000) ((c + A % 10000 + B % 10000) / 10000) (by omega) (by omega)
          rw [ih]
          exact (digQ_step (by omega) (by omega) (by omega)).symm
theorem digQ_ok : ∀ {ds : List Nat}, okQ ds → digQ (valQ ds) = ds
  | [], _ => by rw [valQ, digQ_zero]
  | [d], h => by
    have h1 := h.1 d (by simp)
    have h2 : d ≠ 0 := fun e => h.2 (by rw [e]; rfl)
    rw [valQ, valQ]
    rw [digQ_step (N := d + 10000 * 0) (d := d) (M := 0) (by omega) (by omega) (by omega), digQ_zero]
  | d :: e :: t, h => by
    have ih := digQ_ok (ds := e :: t) ⟨fun x hx => h.1 x (by simp [hx]), fun he => h.2 (by rw [List.getLast?_cons_cons]; exact he)⟩
    have h1 := h.1 d (by simp)
    have h3 : valQ (e :: t) ≠ 0 := fun h0 => by
      rw [h0, digQ_zero] at ih
      cases ih
    rw [valQ]
    rw [digQ_step (N := d + 10000 * valQ (e :: t)) (d := d) (M := valQ (e :: t)) (by omega) (by omega) (by omega), ih]
theorem addQ_both {A B : List Nat} {i c : Nat} (ha : i < A.length) (hb : i < B.length) : addQ (A.drop i) (B.drop i) c = (c + A[i] + B[i]) % 10000 :: addQ (A.drop (i + 1)) (B.drop (i + 1)) ((c + A[i] + B[i]) / 10000) := by
  rw [← List.getElem_cons_drop ha, ← List.getElem_cons_drop hb, addQ]
theorem addQ_left {A B : List Nat} {i c : Nat} (ha : i < A.length) (hb : ¬ i < B.length) : addQ (A.drop i) (B.drop i) c = (c + A[i]) % 10000 :: addQ (A.drop (i + 1)) (B.drop (i + 1)) ((c + A[i]) / 10000) := by
  rw [← List.getElem_cons_drop ha, List.drop_of_length_le (l := B) (i := i) (by omega), List.drop_of_length_le (l := B) (i := i + 1) (by omega), addQ]
theorem addQ_right {A B : List Nat} {i c : Nat} (ha : ¬ i < A.length) (hb : i < B.length) : addQ (A.drop i) (B.drop i) c = (c + B[i]) % 10000 :: addQ (A.drop (i + 1)) (B.drop (i + 1)) ((c + B[i]) / 10000) := by
  rw [← List.getElem_cons_drop hb, List.drop_of_length_le (l := A) (i := i) (by omega), List.drop_of_length_le (l := A) (i := i + 1) (by omega), addQ]
theorem addQ_none {A B : List Nat} {i c : Nat} (ha : ¬ i < A.length) (hb : ¬ i < B.length) : addQ (A.drop i) (B.drop i) c = digQ c := by
  rw [List.drop_of_length_le (l := A) (i := i) (by omega), List.drop_of_length_le (l := B) (i := i) (by omega), addQ]
end Go.Proofs.YtinfnkhghmcelaaDoor

/- Naturals: differences, shifts, lengths. -/
namespace Go.Proofs.YtinfnkhghmcelaaDoor
open Go.RowKit Go.Maps

theorem wrapU (x : Int) : IntKind.u64.wrap x = x % 18446744073709551616 := by
  simp [IntKind.wrap, IntKind.bits, IntKind.signed]

set_option maxRecDepth 100000 in
set_option maxHeartbeats 2000000 in
theorem minus_any (base : Nat) (v u : Value) (N M : Nat) (w : World) (h : Big w base v N) (h2 : BigAt w u M) (hne : ∀ k, u.ownBlock = some k → ¬ v.ownBlock = some k) (hle : M ≤ N) (hN : N < B 1000) :
    Calls Tryd.prog 64 #[v, u] w fun e w' => ∃ v', e = .returned v' ∧ Big w' base v' (N - M) ∧ Step w w' v v' := by
  obtain ⟨a, c, ds, rfl, hrow, hval, hnorm⟩ := h
  obtain ⟨a2, c2, es, rfl, hat2, hv2, hn2⟩ := h2
  have hlen := len_of_val hnorm (hval ▸ hN)
  have hlen2 : es.length ≤ ds.length := by
    rcases Nat.lt_or_ge ds.length es.length with h9 | h9
    · have := cmp_len (a := ds) hn2 h9
      omega
    · exact h9
  subst hval hv2
  clear hN hn2 hnorm
  have HROW : Hid (NRow w base (.slice a ds.length c) ds) := hrow
  have HA2 : Hid (NAt w (.slice a2 es.length c2) es) := hat2
  have HNE : Hid (∀ k, (Value.slice a2 es.length c2).ownBlock = some k → ¬ (Value.slice a ds.length c).ownBlock = some k) := hne
  have hcap : ds.length ≤ c ∧ c ≤ 9223372036854775807 := by
    obtain ⟨a', c', e, hlc, -⟩ := hrow.at
    cases e
    unfold maxLen at hlc
    omega
  clear hrow hat2 hne
  go_enter Tryd.func64, Tryd.ntmps64
  go_wp2
  go_loopw [5, 11] (fun cy i wr => ∃ (k : Nat) (rs : List UInt32) (x : Nat), k ≤ ds.length ∧ i = .int .i64 k ∧ cy = .int .u64 x ∧ x ≤ 1 ∧ Hid (rs.length = k ∧ NRow wr base (.slice a ds.length c) (rs ++ ds.drop k) ∧ valU rs + valU (es.take k) = valU (ds.take k) + B k * x ∧ Kept (fun k => (Value.slice a ds.length c).ownBlock = some k) w wr)) (fun _ i _ => ds.length - (intOf i).toNat)
  case atStart => exact ⟨0, [], 0, Nat.zero_le _, rfl, rfl, by omega, rfl, HROW.out, by simp [valU], Kept.refl _ _⟩
  case round =>
    obtain ⟨k, rs, x, hk, rfl, rfl, hx, hI⟩ := hrel
    obtain ⟨hel, hrow, heq, hkep⟩ := hI.out
    by_cases hlt : k < ds.length
    · have hll : (rs ++ ds.drop k).length = ds.length := by simp; omega
      obtain ⟨d, hd⟩ : ∃ d, d = ds[k] := ⟨_, rfl⟩
      have hrow' : wr.ownsRow base 82 1 (.slice a ds.length c) ds.length (u32s (rs ++ ds.drop k)) := by
        have h9 := hrow
        unfold NRow at h9
        rw [hll] at h9
        exact h9
      have HA2' := HA2.out.kept hkep HNE.out
      obtain ⟨g, rfl⟩ := row_some hrow' (by omega)
      have hdrop : ds.drop k = d :: ds.drop (k + 1) := by rw [hd, List.getElem_cons_drop]
      have hc0 : wr.cell? ⟨g, k, none⟩ = some (.int .u32 d.toNat) := by
        have h9 := hrow'.cells (g := g) rfl k (.int .u32 d.toNat) (by
          rw [hdrop]
          simp [u32s, hel])
        rw [Addr.add_lit, Nat.zero_add] at h9
        exact h9
      have hf0 := (row_cell hrow' (j := k) (by omega)).2
      have hdl : d.toNat < 4294967296 := d.toNat_lt
      have hv1 := take_val hlt
      rw [← hd] at hv1
      have HK2 : Hid (∀ u, Kept (fun k => (Value.slice (some ⟨g, 0, none⟩) ds.length c).ownBlock = some k) w (wr.setCell ⟨g, k, none⟩ u)) := fun u => hkep.setCell (p := ⟨g, k, none⟩) (fun _ => rfl) u
      have HROW2 : Hid (∀ (q : UInt32) (u : Value), u = .int .u32 q.toNat → NRow (wr.setCell ⟨g, k, none⟩ u) base (.slice (some ⟨g, 0, none⟩) ds.length c) (rs ++ [q] ++ ds.drop (k + 1))) := fun q u hu => by
        have h9 := ownsRow_set hrow' (g := g) rfl (i := k) u
        have hl2 : (rs ++ [q] ++ ds.drop (k + 1)).length = ds.length := by simp; omega
        unfold NRow
        rw [hl2]
        have e2 : (u32s (rs ++ ds.drop k)).set k u = u32s (rs ++ [q] ++ ds.drop (k + 1)) := by
          rw [hdrop, hu, ← hel]
          exact set_word rs d q (ds.drop (rs.length + 1))
        rw [e2] at h9
        exact h9
      have HEL : Hid (∀ q : UInt32, (rs ++ [q]).length = k + 1) := fun q => by simp [hel]
      by_cases hle2 : k < es.length
      · obtain ⟨b2, o2, rfl, -, hc2⟩ := HA2'.one k hle2
        obtain ⟨y, hy⟩ : ∃ y, y = es[k].toNat := ⟨_, rfl⟩
        have hyl : y < 4294967296 := by rw [hy]; exact es[k].toNat_lt
        have hv2 := take_val hle2
        rw [← hy] at hc2 hv2
        have HV : Hid (∀ q b' : Nat, q < 4294967296 → d.toNat + 4294967296 * b' = q + x + y → valU (rs ++ [UInt32.ofNat q]) + valU (es.take (k + 1)) = valU (ds.take (k + 1)) + B (k + 1) * b') := fun q b' hq hd' => by
          rw [hv1, hv2]
          exact borrow_step rs x b' d.toNat y q k _ _ hel heq hq hd'
        clear hI hrow heq hkep hd hy hv1 hv2 hel hrow' hdrop HA2' hll
        generalize d.toNat = d at *
        go_wp2
        go_roundw
        case rel =>
          refine ⟨k + 1, rs ++ [UInt32.ofNat ((((d : Int) - x - y) % 4294967296).toNat)], if d < x + y then 1 else 0, by omega, by go_num, ?_, by split <;> omega, HEL.out _, HROW2.out _ _ ?_, HV.out _ _ (by omega) (by split <;> omega), HK2.out _⟩
          · simp only [wrapU]; congr 1; split <;> omega
          · simp only [wrapU]; congr 1; rw [UInt32.toNat_ofNat']; omega
        case measure => simp [intOf]; omega
      · have hv2 : es.take (k + 1) = es.take k := by rw [List.take_of_length_le (by omega), List.take_of_length_le (by omega)]
        have HV : Hid (∀ q b' : Nat, q < 4294967296 → d.toNat + 4294967296 * b' = q + x + 0 → valU (rs ++ [UInt32.ofNat q]) + valU (es.take (k + 1)) = valU (ds.take (k + 1)) + B (k + 1) * b') := fun q b' hq hd' => by
          have := borrow_step rs x b' d.toNat 0 q k _ _ hel heq hq hd'
          rw [hv1, hv2]
          simpa using this
        clear hI hrow heq hkep hd hv1 hv2 hel hrow' hdrop HA2' hll
        generalize d.toNat = d at *
        go_wp2
        go_roundw
        case rel =>
          refine ⟨k + 1, rs ++ [UInt32.ofNat ((((d : Int) - x) % 4294967296).toNat)], if d < x then 1 else 0, by omega, by go_num, ?_, by split <;> omega, HEL.out _, HROW2.out _ _ ?_, HV.out _ _ (by omega) (by split <;> omega), HK2.out _⟩
          · simp only [wrapU]; congr 1; split <;> omega
          · simp only [wrapU]; congr 1; rw [UInt32.toNat_ofNat']; omega
        case measure => simp [intOf]; omega
    · obtain rfl : k = ds.length := by omega
      rw [List.drop_length, List.append_nil] at hrow
      rw [List.take_length, List.take_of_length_le hlen2] at heq
      have hlt := valU_lt rs
      rw [hel] at hlt
      have hx0 : x = 0 := by
        rcases Nat.eq_zero_or_pos x with h9 | h9
        · exact h9
        · have : x = 1 := by omega
          subst this
          omega
      have HV : Hid (valU (trimU rs) = valU ds - valU es) := by
        show _ = _
        rw [valU_trim]
        subst hx0
        simp at heq
        omega
      have HR : Hid (NRow wr base (.slice a rs.length c) rs) := by rw [hel]; exact hrow
      have HK : Hid (Kept (fun k => (Value.slice a ds.length c).ownBlock = some k) w wr) := hkep
      have htr := trimmed_any a c rs wr HR.out.at
      rw [hel] at htr
      have HTR : Hid _ := trim_row HR.out
      clear hI hrow heq hkep hlt hx0 hel
      go_wp2_with (go_at_call 74; refine htr.mono ?_; clear htr; rintro e w4 ⟨rfl, hw4⟩; have hw4 := hw4.symm; subst hw4)
      go_ret
      refine ⟨_, rfl, ⟨_, _, _, rfl, HTR.out, HV.out, norm_trim _⟩, HK.out, fun k hk => ?_⟩
      left
      cases a with
      | none => cases hk
      | some ad => exact hk

end Go.Proofs.YtinfnkhghmcelaaDoor

/- Naturals: shifts. -/
namespace Go.Proofs.YtinfnkhghmcelaaDoor
open Go.RowKit Go.Maps

theorem made_words (c : Nat) : madeCells (Value.int .u32 0).cells c = (u32s (List.replicate c 0)).toArray := by
  apply Array.ext
  · simp [size_madeCells, u32s_length]
  · intro i h1 h2
    have e : i % 1 = 0 := by omega
    simp [madeCells, u32s, Value.cells, e]
theorem valU_zeros (n : Nat) : valU (List.replicate n 0) = 0 := by
  induction n with
  | zero => rfl
  | succ n ih => rw [List.replicate_succ, valU, ih]; rfl

set_option maxRecDepth 100000 in
set_option maxHeartbeats 2000000 in
theorem shifted_any (v : Value) (N n : Nat) (w : World) (h : BigAt w v N) (hN : N < B 1000) (hn : n ≤ 30000) :
    Calls Tryd.prog 59 #[v, .int .i64 n] w fun e w' => ∃ v', e = .returned v' ∧ Big w' w.heap.size v' (N * 2 ^ n) ∧ Below w.heap.size w w' := by
  obtain ⟨a, c, ds, rfl, hat, hval, hnorm⟩ := h
  have hlen := len_of_val hnorm (hval ▸ hN)
  clear hnorm hN
  have HA : Hid (NAt w (.slice a ds.length c) ds) := hat
  clear hat
  obtain ⟨i0, hi0, hz0, hz1, hz2⟩ := info_parts infoU32
  obtain ⟨z, hz⟩ : ∃ z, z = n / 32 := ⟨_, rfl⟩
  obtain ⟨s, hs⟩ : ∃ s, s = n % 32 := ⟨_, rfl⟩
  have hmk := run_make (P := Tryd.prog) w 66 82 i0 _ Tryd.underlying66 hi0 hz0 .i64 .i64 ((n : Int) / 32) ((n : Int) / 32 + (ds.length : Int) + 1) (by omega) (by omega) (by rw [hz2]; omega) (by omega)
  have e1 : ((n : Int) / 32).toNat = z := by omega
  have e2 : ((n : Int) / 32 + (ds.length : Int) + 1).toNat = z + ds.length + 1 := by omega
  rw [e1, e2, hz1, Nat.mul_one, made_words] at hmk
  obtain ⟨W1, hW1⟩ : ∃ W1, w.alloc (.cells (u32s (List.replicate (z + ds.length + 1) 0)).toArray 82) = W1 := ⟨_, rfl⟩
  rw [hW1] at hmk
  have hb1 : Below w.heap.size w W1 := by rw [← hW1]; exact (Below.refl _ _).alloc (Nat.le_refl _) _
  have hrow : W1.ownsRow w.heap.size 82 1 (.slice (some ⟨w.heap.size, 0, none⟩) z (z + ds.length + 1)) z (u32s (List.replicate z 0)) := by
    refine ⟨by simp [u32s_length], Or.inr ⟨_, z + ds.length + 1, (u32s (List.replicate (z + ds.length + 1) 0)).toArray, rfl, Nat.le_refl _, by rw [← hW1]; exact heap_alloc_new w _, by omega, by unfold maxLen; omega, by simp [u32s_length], ?_⟩⟩
    simp only [u32s, List.map_replicate, Nat.mul_one]
    rw [List.take_replicate]
    congr 1
    omega
  have HROW : Hid _ := hrow
  have HB1 : Hid (Below w.heap.size w W1) := hb1
  have hsm : (n : Int) % 32 = (s : Int) := by omega
  have hsl : s < 32 := by omega
  have HZ : Hid (z = n / 32) := hz
  have HS : Hid (s = n % 32) := hs
  have hzl : z ≤ 1000 := by omega
  clear hrow hb1 hW1 e1 e2 hz0 hz1 hz2 hi0 hz hs
  go_enter Tryd.func59, Tryd.ntmps59
  go_wp2
  go_loopw [5, 6, 20] (fun o cy i wr => ∃ (k : Nat) (rs : List UInt32) (x : Nat) (ao : Option Addr) (co : Nat), k ≤ ds.length ∧ i = .int .i64 k ∧ cy = .int .u64 x ∧ x < 2 ^ s ∧ o = .slice ao (z + k) co ∧ Hid (rs.length = k ∧ wr.ownsRow w.heap.size 82 1 (.slice ao (z + k) co) (z + k) (u32s (List.replicate z 0 ++ rs)) ∧ valU rs + B k * x = valU (ds.take k) * 2 ^ s ∧ Below w.heap.size w wr)) (fun _ _ i _ => ds.length - (intOf i).toNat)
  case atStart => exact ⟨0, [], 0, _, _, Nat.zero_le _, rfl, rfl, Nat.pow_pos (by decide), rfl, rfl, by rw [List.append_nil]; exact HROW.out, by simp [valU, B_zero], HB1.out⟩
  case round =>
    obtain ⟨k, rs, x, ao, co, hk, rfl, rfl, hx, rfl, hI⟩ := hrel
    obtain ⟨hrl, hrow, heq, hbl⟩ := hI.out
    have HR : Hid (wr.ownsRow w.heap.size 82 1 (.slice ao (z + k) co) (z + k) (u32s (List.replicate z 0 ++ rs))) := hrow
    have HBL : Hid (Below w.heap.size w wr) := hbl
    have hsz := hbl.size
    by_cases hlt : k < ds.length
    · obtain ⟨b1, o1, rfl, hc1⟩ := word_at HA.out k hlt hbl
      obtain ⟨d, hd⟩ : ∃ d, d = ds[k].toNat := ⟨_, rfl⟩
      have hdl : d < 4294967296 := by rw [hd]; exact ds[k].toNat_lt
      have hv1 := take_val hlt
      rw [← hd] at hc1 hv1
      obtain ⟨p, hp⟩ : ∃ p, p = d * 2 ^ s := ⟨_, rfl⟩
      have hpow : 2 ^ s ≤ 2147483648 := Nat.pow_le_pow_right (n := 2) (by decide) (show s ≤ 31 by omega)
      have hpow0 : 0 < 2 ^ s := Nat.pow_pos (by decide)
      have hpl : p ≤ 4294967295 * 2147483648 := by rw [hp]; exact Nat.mul_le_mul (by omega) hpow
      have hx2 : x < 2147483648 := by omega
      have hshl : IntKind.u64.wrap ((d : Int) * 2 ^ (n % 32)) = (p : Int) := by
        have e10 : (d : Int) * 2 ^ s = (p : Int) := by rw [hp]; simp
        rw [← HS.out, e10, IntKind.wrap_u64, Int.emod_eq_of_lt (by omega) (by omega)]
      have hor : bits .or .u64 (x : Int) (p : Int) = ((x + p : Nat) : Int) := by
        rw [u64_or_nat x p (by omega) (by omega)]
        have e11 : p ||| x = p + x := nat_join s p x (by rw [hp]; exact Nat.mul_mod_left _ _) hx
        rw [Nat.or_comm, e11, Nat.add_comm]
      have HV : Hid (valU (rs ++ [UInt32.ofNat (x + p)]) + B (k + 1) * ((x + p) / 4294967296) = valU (ds.take (k + 1)) * 2 ^ s) := by
        show _ = _
        rw [carry_step rs x p k _ hrl heq, hv1, Nat.add_mul, hp, Nat.mul_assoc]
      have HX : Hid ((x + p) / 4294967296 < 2 ^ s) := by
        show _ < _
        rw [Nat.div_lt_iff_lt_mul (by decide)]
        have h9 : p ≤ 4294967295 * 2 ^ s := by rw [hp]; exact Nat.mul_le_mul_right _ (by omega)
        omega
      have HL : Hid ((rs ++ [UInt32.ofNat (x + p)]).length = k + 1) := by show _ = _; simp [hrl]
      have HAP : Hid (List.replicate z 0 ++ rs ++ [UInt32.ofNat (x + p)] = List.replicate z 0 ++ (rs ++ [UInt32.ofNat (x + p)])) := List.append_assoc _ _ _
      clear hI hrow heq hbl hp hd hv1 hrl hpow hpow0 hx hsm
      generalize (2 : Nat) ^ s = P2 at *
      go_wp2_with (at_builtin; refine wpList_append_word _ rfl _ _ rfl w.heap.size ao (z + k) co _ rfl (World.ownsRow.alloc HR.out _) wr.heap.size (((x : Int) + p) % 4294967296) (by omega) (by omega) rfl (heap_alloc_new wr _) (by omega) (by simp; omega) ?_; intro a3 c3 w3 hr3 hg3 hloc3)
      go_roundw
      case rel =>
        have e1 : (((x : Int) + p) % 4294967296).toNat = (x + p) % 4294967296 := by omega
        rw [e1, ofNat_mod, HAP.out] at hr3
        refine ⟨k + 1, rs ++ [UInt32.ofNat (x + p)], (x + p) / 4294967296, a3, c3, by omega, by go_num, by first | (congr 1; omega) | congr 1, HX.out, rfl, HL.out, hr3, HV.out, ?_⟩
        exact (HBL.out.alloc hsz _).grown hg3 (by simp; omega) (fun j hj => (HR.out.lt j hj).1)
      case measure => simp [intOf]; omega
    · obtain rfl : k = ds.length := by omega
      rw [List.take_length] at heq
      have hx2 : x < 4294967296 := by
        have : 2 ^ s ≤ 2147483648 := Nat.pow_le_pow_right (n := 2) (by decide) (show s ≤ 31 by omega)
        omega
      have hBz : B z = 2 ^ (32 * z) := by
        unfold B
        rw [Nat.pow_mul]
      have HV : Hid (valU (trimU (List.replicate z 0 ++ rs ++ [UInt32.ofNat x])) = N * 2 ^ n) := by
        show _ = _
        rw [valU_trim, List.append_assoc, valU_append, valU_zeros, valU_snoc, hrl, UInt32.toNat_ofNat', Nat.mod_eq_of_lt (show x < 2 ^ 32 by omega), heq, hval, List.length_replicate, hBz, Nat.zero_add, Nat.mul_left_comm, ← Nat.pow_add]
        congr 2
        have h1 := HZ.out
        have h2 := HS.out
        omega
      have HL : Hid ((List.replicate z 0 ++ rs ++ [UInt32.ofNat x]).length = z + ds.length + 1) := by show _ = _; simp [hrl]; omega
      clear hI hrow heq hbl hrl hx hsm hBz
      go_wp2_with (first
        | (at_builtin; refine wpList_append_word _ rfl _ _ rfl w.heap.size ao (z + ds.length) co _ rfl (World.ownsRow.alloc HR.out _) wr.heap.size (x : Int) (by omega) (by omega) rfl (heap_alloc_new wr _) (by omega) (by simp; omega) ?_; intro a3 c3 w3 hr3 hg3 hloc3; rw [Int.toNat_natCast] at hr3; have HB3 : Hid (Below w.heap.size w w3) := (HBL.out.alloc hsz _).grown hg3 (by simp; omega) (fun j hj => (HR.out.lt j hj).1); have HR3 : Hid (NRow w3 w.heap.size (.slice a3 (List.replicate z 0 ++ rs ++ [UInt32.ofNat x]).length c3) (List.replicate z 0 ++ rs ++ [UInt32.ofNat x])) := (by have h9 := hr3; unfold NRow; rw [HL.out]; exact h9); have htr := trimmed_any a3 c3 (List.replicate z 0 ++ rs ++ [UInt32.ofNat x]) w3 HR3.out.at; rw [HL.out] at htr; clear hr3 hg3)
        | (go_at_call 74; refine htr.mono ?_; clear htr; rintro e w4 ⟨rfl, hw4⟩; have hw4 := hw4.symm; subst hw4))
      go_ret
      have h1 := HV.out
      have h2 := HR3.out
      rw [List.append_assoc] at h1 h2
      exact ⟨_, rfl, ⟨_, _, _, rfl, trim_row h2, h1, norm_trim _⟩, HB3.out⟩

end Go.Proofs.YtinfnkhghmcelaaDoor
