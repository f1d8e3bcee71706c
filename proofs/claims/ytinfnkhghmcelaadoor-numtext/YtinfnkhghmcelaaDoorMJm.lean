/- Texts that belong together. -/
import Derived.Test.YtinfnkhghmcelaaDoorMJk
import Derived.Test.YtinfnkhghmcelaaDoorMDr
import Derived.Test.YtinfnkhghmcelaaDoorMFa
/- What the document finds is what the program writes (pure). -/
namespace Go.Proofs.YtinfnkhghmcelaaDoor
open Go

theorem short_last {n v b a w : Nat} {cl : Bool} {l pre : List UInt8} {d : UInt8} (hv : v < w) (hb : 0 < b) (ha : 0 < a) (h : shortF n v b a w cl = some l) (hl : l = pre ++ [d]) (hne : pre ≠ []) : d.toNat ≠ 48 ∧ d.toNat ≠ 58 := by
  obtain ⟨c1, c2, c3, c4, c5⟩ := short_cut n v b a w cl l pre d hv h hl hne
  obtain ⟨i1, i2, i3, i4⟩ := short_in n v b a w cl l hv hb ha h
  have hlen : l.length = pre.length + 1 := by rw [hl]; simp
  have hval : valT l = valT pre * 10 + (d.toNat - 48) := by rw [hl, valT_append, valT_one]; simp
  rw [hlen, Nat.pow_succ] at i1 i2 i3 i4
  have hp : 0 < 10 ^ pre.length := Nat.pow_pos (by decide)
  constructor
  · intro e
    rw [hval, e, Nat.sub_self, Nat.add_zero] at i1 i3
    have e1 : v * (10 ^ pre.length * 10) = v * 10 ^ pre.length * 10 := (Nat.mul_assoc _ _ _).symm
    have e2 : valT pre * 10 * w = valT pre * w * 10 := Nat.mul_right_comm _ _ _
    have e3 : b * (10 ^ pre.length * 10) = b * 10 ^ pre.length * 10 := (Nat.mul_assoc _ _ _).symm
    rw [e1, e2, e3] at i1 i3
    have t1 := c3 (by omega)
    have t2 := i3 (by omega)
    rw [t1] at t2
    cases t2
  · intro e
    rw [hval, e, show 58 - 48 = 10 from rfl] at i2 i4
    have e1 : (valT pre * 10 + 10) * w = (valT pre + 1) * w * 10 := by rw [← Nat.add_one_mul, Nat.mul_right_comm]
    have e2 : v * (10 ^ pre.length * 10) + a * (10 ^ pre.length * 10) = (v + a) * 10 ^ pre.length * 10 := by rw [← Nat.add_mul, Nat.mul_assoc]
    rw [e1, e2] at i2 i4
    have t1 := c4 (by omega)
    have t2 := i4 (by omega)
    rw [t1] at t2
    cases t2
theorem short_head {n v b a w : Nat} {cl : Bool} {l : List UInt8} (hv : v < w) (h10 : w ≤ 10 * v) (h : shortF n v b a w cl = some l) : 49 ≤ (l.headD 0).toNat ∧ (l.headD 0).toNat ≤ 58 := by
  cases n with
  | zero => cases h
  | succ n =>
    have hw : 0 < w := by omega
    have q1 : 1 ≤ v * 10 / w := (Nat.le_div_iff_mul_le hw).2 (by omega)
    have q2 : v * 10 / w ≤ 9 := by
      have : v * 10 / w < 10 := Nat.div_lt_of_lt_mul (by omega)
      omega
    rw [shortF] at h
    generalize v * 10 / w = q at *
    generalize v * 10 % w = r at *
    have f8 : (UInt8.ofNat (48 + q)).toNat = 48 + q := by rw [UInt8.toNat_ofNat']; omega
    have f9 : (UInt8.ofNat (49 + q)).toNat = 49 + q := by rw [UInt8.toNat_ofNat']; omega
    generalize UInt8.ofNat (48 + q) = x8 at *
    generalize UInt8.ofNat (49 + q) = x9 at *
    split at h
    · injection h with h
      rw [← h]
      simp only [List.headD_cons]
      omega
    · split at h
      · injection h with h
        rw [← h]
        simp only [List.headD_cons]
        omega
      · obtain ⟨t, ht, rfl⟩ := Option.map_eq_some_iff.1 h
        simp only [List.headD_cons]
        omega
/-- What is found, and what is written of it. -/
structure Fin (raw : Nat) (x n : Nat) : Prop where
  doc : docF raw (EX raw) (dgs 18 (AX raw (EX raw)) (BX raw (EX raw))) 0 0 = some (x, n)
  n1 : 1 ≤ n
  n2 : n ≤ 18
  is : ∀ T : List UInt8, NumT T x → (T = (dgR raw).1 ∧ EX raw - n + T.length = (dgR raw).2) ∨ (T = (dgR raw).1 ++ [48] ∧ (dgR raw).1 = [49] ∧ EX raw - n + T.length = (dgR raw).2)
  last : (dgR raw).1.length ≤ 1 ∨ ∃ p d, (dgR raw).1 = p ++ [d] ∧ d.toNat ≠ 48
theorem fin_of {raw : Nat} (h0 : 0 < raw) (h1 : raw < 9218868437227405312) : ∃ x n, Fin raw x n := by
  have hf := dig_facts h0 h1
  obtain ⟨l, hl⟩ := dig_18 hf
  obtain ⟨q1, q2, q3, q4⟩ := dig_bounds hf
  have q5 := dig_ten hf
  have ha : 0 < aR raw * tR raw := by
    unfold aR tR
    exact Nat.mul_pos (Nat.mul_pos (by decide) (Nat.pow_pos (by decide))) (Nat.pow_pos (by decide))
  obtain ⟨hr, hB⟩ := AX_ratio hf h0 h1
  have hW : 0 < WX raw := by omega
  have hdoc : docF raw (EX raw) (dgs 18 (AX raw (EX raw)) (BX raw (EX raw))) 0 0 = some (valT l, l.length) := by
    rw [dgs_ratio 18 _ _ _ _ hB hW hr]
    have h9 := doc_short hf h0 h1 18 0 0 (vR raw * tR raw) l q1 (by rw [Nat.zero_mul, Nat.zero_add, Nat.pow_zero, Nat.mul_one]) (by rw [Nat.pow_zero, Nat.mul_one, Nat.mul_one]; exact hl)
    rw [h9, Nat.zero_mul, Nat.zero_add, Nat.zero_add]
  have hdg : dgR raw = upR l (EX raw) := by
    unfold dgR
    rw [if_neg (by omega)]
    unfold digR
    have h9 := shortF_mono 18 29982 _ _ _ _ _ l hl
    rw [show 18 + 29982 = 30000 from rfl] at h9
    rw [h9]
  obtain ⟨hne, hgood⟩ := shortF_good 18 _ _ _ _ _ l q1 hl
  have hlen : l.length ≤ 18 := shortF_len 18 _ _ _ _ _ l hl
  have hhead := short_head q1 q5 hl
  obtain ⟨pre, d, hpd⟩ : ∃ pre d, l = pre ++ [d] := by
    have h9 := List.dropLast_concat_getLast hne
    exact ⟨l.dropLast, l.getLast hne, h9.symm⟩
  have hlast : pre ≠ [] → d.toNat ≠ 48 ∧ d.toNat ≠ 58 := fun hp => short_last q1 q4 ha hl hpd hp
  have hpre : ∀ x ∈ pre, isD x := fun x hx => by
    have hp : pre ≠ [] := fun e => by rw [e] at hx; cases hx
    exact (short_cut 18 _ _ _ _ _ l pre d q1 hl hpd hp).2.2.2.2 x hx
  refine ⟨valT l, l.length, hdoc, List.length_pos_iff.2 hne, hlen, ?_, ?_⟩
  · intro T hT
    rw [hdg]
    unfold upR
    by_cases h58 : 57 < (l.headD 0).toNat
    · have hp : pre = [] := by
        cases pre with
        | nil => rfl
        | cons x y =>
          have := hpre x (by simp)
          unfold isD at this
          rw [hpd] at h58
          simp at h58
          omega
      rw [if_pos h58]
      rw [hp, List.nil_append] at hpd
      rw [hpd] at h58 hhead hT ⊢
      simp only [List.headD_cons] at h58 hhead
      rw [valT_one, show d.toNat - 48 = 10 by omega] at hT
      have hT2 : T = [49, 48] := hT.one ⟨fun b hb => by
        rcases List.mem_cons.1 hb with h9 | h9
        · rw [h9]; unfold isD; decide
        · rw [List.mem_singleton.1 h9]; unfold isD; decide, by simp, by decide, by decide⟩
      right
      rw [hT2]
      refine ⟨rfl, rfl, ?_⟩
      simp only [List.length_cons, List.length_nil]
      omega
    · rw [if_neg h58]
      have hnum : NumT l (valT l) := by
        refine ⟨fun b hb => ?_, hne, ?_, rfl⟩
        · rw [hpd] at hb
          rcases List.mem_append.1 hb with h9 | h9
          · exact hpre b h9
          · rw [List.mem_singleton.1 h9]
            have g := hgood d (by rw [hpd]; simp)
            by_cases hp : pre = []
            · rw [hp, List.nil_append] at hpd
              rw [hpd] at h58
              simp at h58
              unfold isD
              omega
            · have := hlast hp
              unfold isD
              omega
        · intro e
          cases l with
          | nil => cases e
          | cons x y =>
            simp at e
            rw [e] at hhead
            simp at hhead
      left
      have := hT.one hnum
      rw [this]
      refine ⟨rfl, ?_⟩
      show EX raw - (l.length : Int) + (l.length : Int) = EX raw
      omega
  · rw [hdg]
    unfold upR
    by_cases h58 : 57 < (l.headD 0).toNat
    · rw [if_pos h58]
      exact Or.inl (Nat.le_refl _)
    · rw [if_neg h58]
      by_cases hp : pre = []
      · left
        rw [hpd, hp]
        exact Nat.le_refl _
      · exact Or.inr ⟨pre, d, hpd, (hlast hp).1⟩
end Go.Proofs.YtinfnkhghmcelaaDoor

/- The document's text of a natural: the walk. -/
namespace Go.Proofs.YtinfnkhghmcelaaDoor
open Go.RowKit Go.Maps

set_option maxRecDepth 100000 in
set_option maxHeartbeats 2000000 in
theorem refText_nat (v : Value) (A : Nat) (w : World) (h : QAt w v A) (hA : 0 < A) (hl : (digQ A).length ≤ 20) :
    Calls Tryd.prog 41 #[v] w fun e w' => ∃ T : List UInt8, e = .returned (.string ⟨T.toArray⟩) ∧ NumT T A ∧ T.length ≤ 80 ∧ Below w.heap.size w w' := by
  obtain ⟨a, c, rfl, -⟩ := id h
  obtain ⟨n, hn⟩ : ∃ n, n = (digQ A).length := ⟨_, rfl⟩
  have hn0 : 0 < n := by rw [hn, digQ_pos hA]; simp
  have HDL : Hid (∀ d ∈ digQ A, d < 10000) := digQ_lt A A (Nat.le_refl _)
  have HAT : Hid (DAt w (.slice a n c) (digQ A)) := by rw [hn]; exact h
  have HN : Hid (n = (digQ A).length) := hn
  have HVA : Hid (valQ (digQ A) = A) := valQ_dig A A (Nat.le_refl _)
  have HTOP : Hid (∀ hq : n - 1 < (digQ A).length, 0 < (digQ A)[n - 1]) := fun hq => by
    have h1 := digQ_last A A (Nat.le_refl _) hA
    rw [← hn] at h1
    apply Classical.byContradiction
    intro h9
    have h2 := takeQ hq
    rw [List.take_of_length_le (by omega), valQ_dig A A (Nat.le_refl _), show (digQ A)[n - 1] = 0 by omega, Nat.mul_zero, Nat.add_zero] at h2
    have h3 := valQ_take (ds := (digQ A).take (n - 1)) (fun d hd => digQ_lt A A (Nat.le_refl _) d (List.mem_of_mem_take hd))
    rw [List.length_take, Nat.min_eq_left (by omega)] at h3
    omega
  rw [← hn] at hl ⊢
  generalize digQ A = ds at *
  clear h hn
  go_enter Tryd.func41, Tryd.ntmps41
  go_wp2
  go_loopw [3, 4] (fun tv iv wr => ∃ (r : Nat) (DS : ByteArray), r ≤ n ∧ ((∃ q : Nat, r = q + 1 ∧ iv = .int .i64 q) ∨ (r = 0 ∧ iv = .int .i64 (-1))) ∧ tv = .string DS ∧ DS.size ≤ 80 ∧ Hid (∃ T : List UInt8, DS = ⟨T.toArray⟩ ∧ T.length ≤ 4 * (n - r) ∧ ((r = n ∧ T = []) ∨ (r < n ∧ NumT T (valQ (ds.drop r)))) ∧ Below w.heap.size w wr)) (fun _ iv _ => (intOf iv + 1).toNat)
  case atStart => exact ⟨n, ⟨#[]⟩, Nat.le_refl _, Or.inl ⟨n - 1, by omega, by rw [show (n : Int) - 1 = ((n - 1 : Nat) : Int) by omega]⟩, rfl, by decide, [], rfl, by simp, Or.inl ⟨rfl, rfl⟩, Below.refl _ _⟩
  case round =>
    obtain ⟨r, DS, hr, hj, rfl, hDS, HI⟩ := hrel
    rcases hj with ⟨q, rfl, rfl⟩ | ⟨rfl, rfl⟩
    · obtain ⟨T, hT1, hT2, hT3, hT4⟩ := HI.out
      have hq : q < ds.length := by rw [← HN.out]; omega
      obtain ⟨b1, o1, rfl, hc1⟩ := HAT.out.one q hq hT4
      have hd4 : ds[q] < 10000 := HDL.out _ (List.getElem_mem hq)
      have hdr : valQ (ds.drop q) = ds[q] + 10000 * valQ (ds.drop (q + 1)) := by rw [← List.getElem_cons_drop hq, valQ]
      have htop : q + 1 = n → 0 < ds[q] := fun e => by
        have h9 := HTOP.out (by rw [← HN.out]; omega)
        have e2 : n - 1 = q := by omega
        simpa [e2] using h9
      obtain ⟨d, hd⟩ : ∃ d, d = ds[q] := ⟨_, rfl⟩
      rw [← hd] at hc1 hd4 hdr htop
      clear hd
      have HPL : Hid (∀ W : World, Calls Tryd.prog 44 #[.int .i64 d] W fun e w' => e = .returned (.string ⟨(Lib.decDigits d).toArray⟩) ∧ Below W.heap.size W w') := fun W => by
        have h9 := plainRef_any d (d : Int) (by omega) (by omega) (by omega) W
        rwa [Int.natAbs_natCast] at h9
      have hdv := dec_val d d (Nat.le_refl _)
      have hd44 := dec_four hd4
      obtain ⟨PS, hPS⟩ : ∃ PS : ByteArray, PS = ⟨(Lib.decDigits d).toArray⟩ := ⟨_, rfl⟩
      rw [← hPS] at HPL
      have hPz : PS.size ≤ 4 := by rw [hPS, baz]; exact hd44
      have HPS : Hid (∃ t : List UInt8, PS = ⟨t.toArray⟩ ∧ (∀ b ∈ t, isD b) ∧ t ≠ [] ∧ valT t = d ∧ (t = Lib.decDigits d ∨ q + 1 < n)) := ⟨Lib.decDigits d, hPS, hdv.1, hdv.2.1, hdv.2.2, Or.inl rfl⟩
      have HT : Hid (DS = ⟨T.toArray⟩ ∧ T.length ≤ 4 * (n - (q + 1)) ∧ ((q + 1 = n ∧ T = []) ∨ (q + 1 < n ∧ NumT T (valQ (ds.drop (q + 1)))))) := ⟨hT1, hT2, hT3⟩
      have HW : Hid (Below w.heap.size w wr) := hT4
      have HDR : Hid (valQ (ds.drop q) = d + 10000 * valQ (ds.drop (q + 1)) ∧ (q + 1 = n → 0 < d)) := ⟨hdr, htop⟩
      clear HI hT1 hT2 hT3 hT4 hdr htop hdv hd44 hPS
      go_wp2_with (go_at_call 44; refine (HPL.out _).mono ?_; clear HPL; rintro e9 w2 ⟨rfl, hb2⟩; have HB2 : Hid (Below w.heap.size w w2) := HW.out.trans (hb2.mono HW.out.size); clear hb2)
      go_loop [5] (fun sv => ∃ PS : ByteArray, sv = .string PS ∧ PS.size ≤ 4 ∧ Hid (∃ t : List UInt8, PS = ⟨t.toArray⟩ ∧ (∀ b ∈ t, isD b) ∧ t ≠ [] ∧ valT t = d ∧ (t = Lib.decDigits d ∨ q + 1 < n))) (fun sv => match sv with | .string s => 4 - s.size | _ => 0)
      case atStart => exact ⟨PS, rfl, hPz, HPS.out⟩
      case round =>
        clear HPS hPz
        obtain ⟨PS, rfl, hPz, HPS⟩ := hrel
        obtain ⟨t, ht1, ht2, ht3, ht4, ht5⟩ := HPS.out
        have hsz : PS.size = t.length := by rw [ht1, baz]
        by_cases hmid : q + 1 < n
        · have hmi : (q : Int) < (n : Int) - 1 := by omega
          by_cases h4 : PS.size < 4
          · have h4i : (PS.size : Int) < 4 := by omega
            have HNX : Hid (∃ t : List UInt8, (⟨#[48]⟩ : ByteArray) ++ PS = ⟨t.toArray⟩ ∧ (∀ b ∈ t, isD b) ∧ t ≠ [] ∧ valT t = d ∧ (t = Lib.decDigits d ∨ q + 1 < n)) := by
              refine ⟨48 :: t, ?_, fun b hb => ?_, by simp, by rw [val_pad]; exact ht4, Or.inr hmid⟩
              · rw [ht1]
                exact ba_join [48] t
              · rcases List.mem_cons.1 hb with h9 | h9
                · rw [h9]; unfold isD; decide
                · exact ht2 b h9
            have hz2 : ((⟨#[48]⟩ : ByteArray) ++ PS).size = PS.size + 1 := by
              rw [ByteArray.size_append]
              show 1 + PS.size = _
              omega
            have HZ2 : Hid (((⟨#[48]⟩ : ByteArray) ++ PS).size = PS.size + 1) := hz2
            have hPb : PS.size ≤ 1000 := by omega
            clear ht1 ht2 ht3 ht4 ht5 hsz HPS hz2
            go_wp2
            go_round
            case rel => exact ⟨_, rfl, by rw [HZ2.out]; omega, HNX.out⟩
            case measure =>
              show 4 - ((⟨#[48]⟩ : ByteArray) ++ PS).size < 4 - PS.size
              rw [HZ2.out]
              omega
          · have h4i : ¬ (PS.size : Int) < 4 := by omega
            have hT := HT.out
            have HRES : Hid (∃ T' : List UInt8, DS ++ PS = ⟨T'.toArray⟩ ∧ T'.length ≤ 4 * (n - q) ∧ NumT T' (valQ (ds.drop q))) := by
              obtain ⟨e1, e2, e3⟩ := hT
              rcases e3 with ⟨e3, -⟩ | ⟨-, e3⟩
              · omega
              · refine ⟨T ++ t, by rw [e1, ht1]; exact ba_join T t, by rw [List.length_append]; omega, ⟨fun b hb => ?_, by simp [e3.ne], ?_, ?_⟩⟩
                · rcases List.mem_append.1 hb with h9 | h9
                  · exact e3.dig b h9
                  · exact ht2 b h9
                · have h8 := e3.head
                  have h7 := e3.ne
                  cases T with
                  | nil => exact absurd rfl h7
                  | cons x y => simpa using h8
                · rw [valT_append, e3.val, ht4, HDR.out.1, show t.length = 4 by omega]
                  omega
            have hz3 : (DS ++ PS).size ≤ 80 := by
              obtain ⟨T', e1, e2, -⟩ := HRES.out
              rw [e1, baz]
              omega
            have HZ3 : Hid ((DS ++ PS).size ≤ 80) := hz3
            have hPb : PS.size ≤ 1000 := by omega
            clear ht1 ht2 ht3 ht4 ht5 hsz HPS hz3 hT
            go_wp2
            go_roundw
            case rel =>
              refine ⟨q, DS ++ PS, by omega, ?_, rfl, HZ3.out, ?_⟩
              · rcases Nat.eq_zero_or_pos q with h0 | h0
                · exact Or.inr ⟨h0, by rw [h0]; rfl⟩
                · exact Or.inl ⟨q - 1, by omega, by rw [show (q : Int) - 1 = ((q - 1 : Nat) : Int) by omega]⟩
              · obtain ⟨T', e1, e2, e3⟩ := HRES.out
                exact ⟨T', e1, e2, Or.inr ⟨by omega, e3⟩, HB2.out⟩
            case measure => simp [intOf]
        · have hmi : ¬ (q : Int) < (n : Int) - 1 := by omega
          have hT := HT.out
          have HRES : Hid (∃ T' : List UInt8, DS ++ PS = ⟨T'.toArray⟩ ∧ T'.length ≤ 4 * (n - q) ∧ NumT T' (valQ (ds.drop q))) := by
            obtain ⟨e1, e2, e3⟩ := hT
            rcases e3 with ⟨e3, e4⟩ | ⟨e3, -⟩
            · subst e4
              have htd : t = Lib.decDigits d := by
                rcases ht5 with h9 | h9
                · exact h9
                · omega
              have hd0 := HDR.out.2 e3
              have hz : valQ (ds.drop q) = d := by
                rw [HDR.out.1, List.drop_of_length_le (by rw [← HN.out]; omega), valQ]
                omega
              refine ⟨t, by rw [e1, ht1]; exact ba_join [] t, by omega, ?_⟩
              rw [hz, htd]
              exact dec_num d d (Nat.le_refl _) hd0
            · omega
          have hz3 : (DS ++ PS).size ≤ 80 := by
            obtain ⟨T', e1, e2, -⟩ := HRES.out
            rw [e1, baz]
            omega
          have HZ3 : Hid ((DS ++ PS).size ≤ 80) := hz3
          have hPb : PS.size ≤ 1000 := by omega
          clear ht1 ht2 ht3 ht4 ht5 hsz HPS hz3 hT
          go_wp2
          go_roundw
          case rel =>
            refine ⟨q, DS ++ PS, by omega, ?_, rfl, HZ3.out, ?_⟩
            · rcases Nat.eq_zero_or_pos q with h0 | h0
              · exact Or.inr ⟨h0, by rw [h0]; rfl⟩
              · exact Or.inl ⟨q - 1, by omega, by rw [show (q : Int) - 1 = ((q - 1 : Nat) : Int) by omega]⟩
            · obtain ⟨T', e1, e2, e3⟩ := HRES.out
              exact ⟨T', e1, e2, Or.inr ⟨by omega, e3⟩, HB2.out⟩
          case measure => simp [intOf]
    · have HF : Hid (∃ T : List UInt8, DS = ⟨T.toArray⟩ ∧ NumT T A ∧ T.length ≤ 80 ∧ Below w.heap.size w wr) := by
        obtain ⟨T, e1, e2, e3, e4⟩ := HI.out
        rcases e3 with ⟨e3, -⟩ | ⟨-, e3⟩
        · omega
        · rw [List.drop_zero, HVA.out] at e3
          exact ⟨T, e1, e3, by omega, e4⟩
      clear HI
      go_wp2
      go_ret
      obtain ⟨T, e1, e2, e3, e4⟩ := HF.out
      exact ⟨T, by rw [e1]; rfl, e2, e3, e4⟩
end Go.Proofs.YtinfnkhghmcelaaDoor
