/- Texts that belong together. -/
import Derived.Test.YtinfnkhghmcelaaDoorMDd
import Derived.WalkKit
/- What is read of a text is digits, the first one not 0. -/
namespace Go.Proofs.YtinfnkhghmcelaaDoor
open Go.RowKit Go.Maps

theorem GoodD.snoc {ds : List UInt8} (h : GoodD ds) {d : UInt8} (h9 : d.toNat ≤ 9) (h0 : d.toNat ≠ 0 ∨ ds ≠ []) : GoodD (ds ++ [d]) := by
  refine ⟨fun x hx => ?_, fun x hx => ?_⟩
  · rcases List.mem_append.1 hx with h1 | h1
    · exact h.1 x h1
    · rw [List.mem_singleton.1 h1]; exact h9
  · cases ds with
    | nil =>
      simp at hx
      subst hx
      rcases h0 with h1 | h1
      · exact h1
      · exact absurd rfl h1
    | cons y t => exact h.2 x (by simpa using hx)
theorem scan_good : ∀ (l ds : List UInt8) (p : Int) (n : Nat) (pt : Bool), GoodD ds →
    GoodD (scanD l ds p n pt).1 ∧ (scanD l ds p n pt).1.length ≤ ds.length + l.length ∧ p - l.length ≤ (scanD l ds p n pt).2.1 ∧ (scanD l ds p n pt).2.1 ≤ p
  | [], ds, p, n, pt, h => by simp [scanD]; exact h
  | b :: t, ds, p, n, pt, h => by
    unfold scanD
    split
    · rename_i hd
      have hg : GoodD (if b.toNat ≠ 48 ∨ ds ≠ [] then ds ++ [UInt8.ofNat (b.toNat - 48)] else ds) := by
        split
        · rename_i h1
          have e : (UInt8.ofNat (b.toNat - 48)).toNat = b.toNat - 48 := by rw [UInt8.toNat_ofNat']; omega
          refine h.snoc (by omega) ?_
          rcases h1 with h2 | h2
          · left; omega
          · exact Or.inr h2
        · exact h
      have hl : (if b.toNat ≠ 48 ∨ ds ≠ [] then ds ++ [UInt8.ofNat (b.toNat - 48)] else ds).length ≤ ds.length + 1 := by split <;> simp
      obtain ⟨h1, h2, h3, h4⟩ := scan_good t _ (if pt = true then p - 1 else p) (n + 1) pt hg
      have hp : p - 1 ≤ (if pt = true then p - 1 else p) ∧ (if pt = true then p - 1 else p) ≤ p := by split <;> omega
      refine ⟨h1, ?_, ?_, ?_⟩
      · simp only [List.length_cons]; omega
      · simp only [List.length_cons]; omega
      · omega
    · split
      · obtain ⟨h1, h2, h3, h4⟩ := scan_good t ds p n true h
        refine ⟨h1, ?_, ?_, h4⟩
        · simp only [List.length_cons]; omega
        · simp only [List.length_cons]; omega
      · refine ⟨h, by simp, ?_, Int.le_refl _⟩
        simp only [List.length_cons]; omega
theorem decR_good {s : ByteArray} {ds : List UInt8} {p : Int} (h : decR s = some (ds, p)) (hs : s.size ≤ 400) : GoodD ds ∧ ds.length ≤ 400 ∧ -2000000 ≤ p ∧ p ≤ 2000000 := by
  have hg := scan_good s.data.toList [] 0 0 false ⟨fun _ h => (by cases h), fun _ h => (by cases h)⟩
  have hl : s.data.toList.length = s.size := by simp
  unfold decR at h
  generalize scanD s.data.toList [] 0 0 false = r at *
  obtain ⟨ds1, p1, n, rest⟩ := r
  simp only at h hg
  obtain ⟨g1, g2, g3, g4⟩ := hg
  have gl : ds1.length ≤ 400 := by simp at g2; omega
  split at h
  · cases h
  · cases rest with
    | nil =>
      simp at h
      obtain ⟨rfl, rfl⟩ := h
      exact ⟨g1, gl, by omega, by omega⟩
    | cons b t =>
      simp only at h
      split at h
      · have he := expR_le ⟨t.toArray⟩
        split at h
        · simp at h
          obtain ⟨rfl, rfl⟩ := h
          exact ⟨g1, gl, by omega, by omega⟩
        · cases h
      · cases h
theorem quotB_le (A D : Nat) (t : Int) : quotB A D t ≤ 9218868437227405312 := by
  unfold quotB
  split
  · omega
  · exact Nat.min_le_right _ _
theorem nearN_le (ds : List UInt8) (p : Int) : nearN ds p ≤ 9218868437227405312 := by
  unfold nearN
  split
  · omega
  · split
    · exact Nat.le_refl _
    · unfold quotN
      split <;> exact quotB_le _ _ _

end Go.Proofs.YtinfnkhghmcelaaDoor

/- Parse. -/
namespace Go.Proofs.YtinfnkhghmcelaaDoor
open Go.RowKit Go.Maps

def sgB (neg : Bool) (raw : Nat) : Nat := if neg then raw + 9223372036854775808 else raw
def parseR (s : ByteArray) : Nat × Int :=
  if 400 < s.size then (0, 8)
  else if (cutB s).1.data.toList.map low = [110, 97, 110] then (9221120237041090561, 0)
  else if (cutB s).1.data.toList.map low = [105, 110, 102] ∨ (cutB s).1.data.toList.map low = [105, 110, 102, 105, 110, 105, 116, 121] then (sgB (cutB s).2 9218868437227405312, 0)
  else match decR (cutB s).1 with
    | none => (0, 8)
    | some (ds, p) => (sgB (cutB s).2 (nearN ds p), 0)
theorem or_sign {raw : Nat} (h : raw ≤ 9218868437227405312) : bits .or .u64 (raw : Int) 9223372036854775808 = ((raw + 9223372036854775808 : Nat) : Int) := by
  have h1 := u64_or_nat raw 9223372036854775808 (by omega) (by decide)
  have e11 : 9223372036854775808 ||| raw = 9223372036854775808 + raw := nat_join 63 9223372036854775808 raw (by decide) (by omega)
  rw [Nat.or_comm, e11] at h1
  rw [Nat.add_comm]
  exact h1

theorem or_inf : bits .or .u64 9218868437227405312 9223372036854775808 = 18442240474082181120 := by kernel_rfl
theorem ret_f {a b : Nat} (h : a = b) : Ending.returned (.tuple #[.float .f64 a, .int .i64 0]) = .returned (.tuple #[.float .f64 b, .int .i64 0]) := by rw [h]
theorem frombits_run (n : Int) (W : World) : (callFunc 10 #[.int .u64 n]).run Tryd.prog W = .ok (.value (.float .f64 n.toNat)) W := by kernel_rfl

set_option maxRecDepth 100000 in
set_option maxHeartbeats 1500000 in
theorem parse_any (s : ByteArray) (w : World) (hs : s.size ≤ maxLen) : Calls Tryd.prog 6 #[.string s] w fun e w' => e = .returned (.tuple #[.float .f64 (parseR s).1, .int .i64 (parseR s).2]) ∧ Below w.heap.size w w' := by
  unfold maxLen at hs
  have hfb := frombits_run
  by_cases hbig : 400 < s.size
  · have HP : Hid (parseR s = (0, 8)) := by show _ = _; unfold parseR; rw [if_pos hbig]
    go_enter Tryd.func6, Tryd.ntmps6
    go_wp2
    go_ret2
    exact ⟨by rw [HP.out]; rfl, Below.refl _ _⟩
  · have hcut := cutSign_any s w (by omega)
    have hts := cutB_size s
    have HP : Hid (parseR s = (if (cutB s).1.data.toList.map low = [110, 97, 110] then (9221120237041090561, 0)
      else if (cutB s).1.data.toList.map low = [105, 110, 102] ∨ (cutB s).1.data.toList.map low = [105, 110, 102, 105, 110, 105, 116, 121] then (sgB (cutB s).2 9218868437227405312, 0)
      else match decR (cutB s).1 with
        | none => (0, 8)
        | some (ds, p) => (sgB (cutB s).2 (nearN ds p), 0) : Nat × Int)) := by show _ = _; unfold parseR; rw [if_neg hbig]
    generalize (cutB s).1 = t at *
    generalize (cutB s).2 = neg at *
    have HLO : Hid (∀ W, Calls Tryd.prog 20 #[.string t] W fun e w' => e = .returned (.string ⟨(t.data.toList.map low).toArray⟩) ∧ Below W.heap.size W w') := fun W => lower_any t W (by omega)
    obtain ⟨l, hl⟩ : ∃ l, l = t.data.toList.map low := ⟨_, rfl⟩
    obtain ⟨ls, hls⟩ : ∃ ls : ByteArray, ls = ⟨l.toArray⟩ := ⟨_, rfl⟩
    have hltl : ls.toList = l := by rw [hls, ByteArray.toList_eq]
    rw [← hl] at HP HLO
    rw [← hls] at HLO
    clear hl hls
    by_cases hnan : l = [110, 97, 110]
    · rw [if_pos hnan] at HP
      subst hnan
      go_enter Tryd.func6, Tryd.ntmps6
      go_wp2_with (first
        | (go_at_call 19; refine hcut.mono ?_; clear hcut; rintro e w1 ⟨rfl, q, rfl⟩; have hbq := below_drewN (Below.refl w.heap.size w) q)
        | (go_at_call 20; refine (HLO.out _).mono ?_; clear HLO; rintro e w2 ⟨rfl, hb2⟩; have hb02 := hbq.trans (hb2.mono hbq.size)))
      go_ret2
      exact ⟨by rw [HP.out]; rfl, hb02⟩
    · rw [if_neg hnan] at HP
      by_cases hinf : l = [105, 110, 102]
      · rw [if_pos (Or.inl hinf)] at HP
        subst hinf
        have hn1 : ¬ ls.toList = [110, 97, 110] := by rw [hltl]; decide
        clear hnan
        cases neg with
        | false =>
          go_enter Tryd.func6, Tryd.ntmps6
          go_wp2_with (first
                | (go_at_call 19; refine hcut.mono ?_; clear hcut; rintro e w1 ⟨rfl, q, rfl⟩; have hbq := below_drewN (Below.refl w.heap.size w) q)
                | (go_at_call 20; refine (HLO.out _).mono ?_; clear HLO; rintro e w2 ⟨rfl, hb2⟩; have hb02 := hbq.trans (hb2.mono hbq.size)))
          go_ret2
          exact ⟨by rw [HP.out]; exact ret_f (by simp [sgB]), hb02⟩
        | true =>
          have hors : bits .or .u64 9218868437227405312 9223372036854775808 = 18442240474082181120 := or_inf
          go_enter Tryd.func6, Tryd.ntmps6
          go_wp2_with (first
                | (go_at_call 19; refine hcut.mono ?_; clear hcut; rintro e w1 ⟨rfl, q, rfl⟩; have hbq := below_drewN (Below.refl w.heap.size w) q)
                | (go_at_call 20; refine (HLO.out _).mono ?_; clear HLO; rintro e w2 ⟨rfl, hb2⟩; have hb02 := hbq.trans (hb2.mono hbq.size)))
          go_ret2
          exact ⟨by rw [HP.out]; exact ret_f (by simp [sgB]), hb02⟩
      · by_cases hinf2 : l = [105, 110, 102, 105, 110, 105, 116, 121]
        · rw [if_pos (Or.inr hinf2)] at HP
          clear hinf
          have hinf := hinf2
          clear hinf2
          subst hinf
          have hn1 : ¬ ls.toList = [110, 97, 110] := by rw [hltl]; decide
          clear hnan
          cases neg with
          | false =>
            go_enter Tryd.func6, Tryd.ntmps6
            go_wp2_with (first
                  | (go_at_call 19; refine hcut.mono ?_; clear hcut; rintro e w1 ⟨rfl, q, rfl⟩; have hbq := below_drewN (Below.refl w.heap.size w) q)
                  | (go_at_call 20; refine (HLO.out _).mono ?_; clear HLO; rintro e w2 ⟨rfl, hb2⟩; have hb02 := hbq.trans (hb2.mono hbq.size)))
            go_ret2
            exact ⟨by rw [HP.out]; exact ret_f (by simp [sgB]), hb02⟩
          | true =>
            have hors : bits .or .u64 9218868437227405312 9223372036854775808 = 18442240474082181120 := or_inf
            go_enter Tryd.func6, Tryd.ntmps6
            go_wp2_with (first
                  | (go_at_call 19; refine hcut.mono ?_; clear hcut; rintro e w1 ⟨rfl, q, rfl⟩; have hbq := below_drewN (Below.refl w.heap.size w) q)
                  | (go_at_call 20; refine (HLO.out _).mono ?_; clear HLO; rintro e w2 ⟨rfl, hb2⟩; have hb02 := hbq.trans (hb2.mono hbq.size)))
            go_ret2
            exact ⟨by rw [HP.out]; exact ret_f (by simp [sgB]), hb02⟩
        · rw [if_neg (fun h => h.elim hinf hinf2)] at HP
          have hn1 : (ls.toList == [110, 97, 110]) = false := by rw [beq_eq_false_iff_ne, hltl]; exact hnan
          have hn2 : (ls.toList == [105, 110, 102]) = false := by rw [beq_eq_false_iff_ne, hltl]; exact hinf
          have hn3 : (ls.toList == [105, 110, 102, 105, 110, 105, 116, 121]) = false := by rw [beq_eq_false_iff_ne, hltl]; exact hinf2
          clear hltl hnan hinf hinf2
          cases hdr : decR t with
          | none =>
            rw [hdr] at HP
            have HRD : Hid (∀ W, Calls Tryd.prog 21 #[.string t] W fun e w' => (∃ a n c p, e = .returned (.tuple #[.agg #[.slice a n c, .int .i64 p], .bool false])) ∧ Below W.heap.size W w') := fun W => by
              have h9 := readDecimal_any t W (by omega)
              rw [hdr] at h9
              exact h9
            clear hdr
            go_enter Tryd.func6, Tryd.ntmps6
            go_wp2_with (first
              | (go_at_call 19; refine hcut.mono ?_; clear hcut; rintro e w1 ⟨rfl, q, rfl⟩; have hbq := below_drewN (Below.refl w.heap.size w) q)
              | (go_at_call 20; refine (HLO.out _).mono ?_; clear HLO; rintro e w2 ⟨rfl, hb2⟩; have hb02 := hbq.trans (hb2.mono hbq.size))
              | (go_at_call 21; refine (HRD.out _).mono ?_; clear HRD; rintro e w3 ⟨⟨a, n, c, p, rfl⟩, hb3⟩; have hb03 := hb02.trans (hb3.mono hb02.size); have hba : Below w3.heap.size w3 (w3.alloc (.cells #[.slice a n c, .int .i64 p] 46)) := (Below.refl _ _).alloc (Nat.le_refl _) _; have hb04 := hb03.trans (hba.mono hb03.size)))
            go_ret2
            exact ⟨by rw [HP.out]; rfl, hb04⟩
          | some dp =>
            obtain ⟨ds, p⟩ := dp
            rw [hdr] at HP
            obtain ⟨hg1, hg2, hg3, hg4⟩ := decR_good hdr (by omega)
            have hnl := nearN_le ds p
            have HRD : Hid (∀ W, Calls Tryd.prog 21 #[.string t] W fun e w' => (∃ a c, e = .returned (.tuple #[.agg #[.slice a ds.length c, .int .i64 p], .bool true]) ∧ w'.ownsRow W.heap.size 5 1 (.slice a ds.length c) ds.length (u8s ds)) ∧ Below W.heap.size W w') := fun W => by
              have h9 := readDecimal_any t W (by omega)
              rw [hdr] at h9
              exact h9
            clear hdr
            cases neg with
            | false =>
              go_enter Tryd.func6, Tryd.ntmps6
              go_wp2_with (first
                  | (go_at_call 19; refine hcut.mono ?_; clear hcut; rintro e w1 ⟨rfl, q, rfl⟩; have hbq := below_drewN (Below.refl w.heap.size w) q)
                  | (go_at_call 20; refine (HLO.out _).mono ?_; clear HLO; rintro e w2 ⟨rfl, hb2⟩; have hb02 := hbq.trans (hb2.mono hbq.size))
                  | (go_at_call 21; refine (HRD.out _).mono ?_; clear HRD; rintro e w3 ⟨⟨a, c, rfl, hr3⟩, hb3⟩; have hb03 := hb02.trans (hb3.mono hb02.size); have hba : Below w3.heap.size w3 (w3.alloc (.cells #[.slice a ds.length c, .int .i64 p] 46)) := (Below.refl _ _).alloc (Nat.le_refl _) _; have hb04 := hb03.trans (hba.mono hb03.size); have hne := nearest_any a c ds p _ (w3.alloc (.cells #[.slice a ds.length c, .int .i64 p] 46)) (World.ownsRow.alloc hr3 _) hg1 hg2 hg3 hg4)
                  | (go_at_call 22; refine hne.mono ?_; clear hne; rintro e w5 ⟨rfl, hb5⟩; have hb05 := hb04.trans (hb5.mono hb04.size)))
              go_ret2
              exact ⟨by rw [HP.out]; exact ret_f (by simp [sgB]), hb05⟩
            | true =>
              have hors := or_sign hnl
              go_enter Tryd.func6, Tryd.ntmps6
              go_wp2_with (first
                  | (go_at_call 19; refine hcut.mono ?_; clear hcut; rintro e w1 ⟨rfl, q, rfl⟩; have hbq := below_drewN (Below.refl w.heap.size w) q)
                  | (go_at_call 20; refine (HLO.out _).mono ?_; clear HLO; rintro e w2 ⟨rfl, hb2⟩; have hb02 := hbq.trans (hb2.mono hbq.size))
                  | (go_at_call 21; refine (HRD.out _).mono ?_; clear HRD; rintro e w3 ⟨⟨a, c, rfl, hr3⟩, hb3⟩; have hb03 := hb02.trans (hb3.mono hb02.size); have hba : Below w3.heap.size w3 (w3.alloc (.cells #[.slice a ds.length c, .int .i64 p] 46)) := (Below.refl _ _).alloc (Nat.le_refl _) _; have hb04 := hb03.trans (hba.mono hb03.size); have hne := nearest_any a c ds p _ (w3.alloc (.cells #[.slice a ds.length c, .int .i64 p] 46)) (World.ownsRow.alloc hr3 _) hg1 hg2 hg3 hg4)
                  | (go_at_call 22; refine hne.mono ?_; clear hne; rintro e w5 ⟨rfl, hb5⟩; have hb05 := hb04.trans (hb5.mono hb04.size)))
              go_ret2
              exact ⟨by rw [HP.out]; exact ret_f (by simp [sgB]), hb05⟩

end Go.Proofs.YtinfnkhghmcelaaDoor

/- What wakes reads. -/
namespace Go.Proofs.YtinfnkhghmcelaaDoor
theorem parse_wakes : parseR ⟨#[50, 46, 53, 101, 45, 49]⟩ = (4598175219545276416, 0) := by kernel_rfl
end Go.Proofs.YtinfnkhghmcelaaDoor

/- Floats stand in the order of their bits. -/
namespace Go.Proofs.YtinfnkhghmcelaaDoor
open Ieee

/-- A float's size without its sign, counted in the least floats. -/
def magF (r : Nat) : Nat := if r < 4503599627370496 then r else (4503599627370496 + r % 4503599627370496) * 2 ^ (r / 4503599627370496 - 1)
theorem magF_succ (r : Nat) : magF r < magF (r + 1) := by
  unfold magF
  by_cases h : r + 1 < 4503599627370496
  · rw [if_pos h, if_pos (by omega)]; omega
  · rw [if_neg h]
    by_cases h2 : r < 4503599627370496
    · rw [if_pos h2]
      obtain rfl : r = 4503599627370495 := by omega
      decide
    · rw [if_neg h2]
      have hp : 0 < 2 ^ (r / 4503599627370496 - 1) := Nat.pow_pos (by decide)
      by_cases h3 : (r + 1) / 4503599627370496 = r / 4503599627370496
      · rw [h3]
        exact Nat.mul_lt_mul_of_pos_right (by omega) hp
      · have h4 : (r + 1) / 4503599627370496 = r / 4503599627370496 + 1 := by omega
        have h5 : (r + 1) % 4503599627370496 = 0 := by omega
        have h6 : r % 4503599627370496 = 4503599627370495 := by omega
        have h7 : (r + 1) / 4503599627370496 - 1 = (r / 4503599627370496 - 1) + 1 := by omega
        rw [h7, h5, h6, Nat.pow_succ]
        generalize 2 ^ (r / 4503599627370496 - 1) = P at *
        omega
theorem magF_lt {r s : Nat} (h : r < s) : magF r < magF s := by
  obtain ⟨k, rfl⟩ : ∃ k, s = r + 1 + k := ⟨s - (r + 1), by omega⟩
  clear h
  induction k with
  | zero => exact magF_succ r
  | succ k ih => exact Nat.lt_trans ih (magF_succ _)
theorem magF_iff {r s : Nat} : magF r < magF s ↔ r < s := by
  constructor
  · intro h
    rcases Nat.lt_or_ge r s with h1 | h1
    · exact h1
    · rcases Nat.lt_or_ge s r with h2 | h2
      · have := magF_lt h2; omega
      · have : r = s := by omega
        subst this; omega
  · exact magF_lt
def keyF (x : Nat) : Int := if x / 9223372036854775808 % 2 = 1 then -((x % 9223372036854775808 : Nat) : Int) else ((x % 9223372036854775808 : Nat) : Int)
theorem read_double (x : Nat) : double.read x = (if x % 9223372036854775808 < 4503599627370496 then .number (x / 9223372036854775808 % 2 == 1) (x % 9223372036854775808) (-1074)
    else if x % 9223372036854775808 < 9218868437227405312 then .number (x / 9223372036854775808 % 2 == 1) (4503599627370496 + x % 9223372036854775808 % 4503599627370496) (-1074 + (x % 9223372036854775808 / 4503599627370496 - 1 : Nat))
    else if x % 9223372036854775808 = 9218868437227405312 then .infinity (x / 9223372036854775808 % 2 == 1)
    else .nan (x / 9223372036854775808 % 2 == 1) (x % 9223372036854775808 - 9218868437227405312)) := rfl
theorem read_number {x : Nat} (h : x % 9223372036854775808 < 9218868437227405312) : ∃ m p, double.read x = .number (x / 9223372036854775808 % 2 == 1) m p ∧ -1074 ≤ p ∧ m * 2 ^ (p + 1074).toNat = magF (x % 9223372036854775808) := by
  rw [read_double]
  unfold magF
  split
  · exact ⟨_, _, rfl, by omega, by simp⟩
  · exact ⟨_, _, rfl, by omega, by congr 2; omega⟩
theorem cmp_int_mul (a b : Int) (k : Nat) : compare a b = compare (a * 2 ^ k) (b * 2 ^ k) := by
  have hp : (0 : Int) < 2 ^ k := Int.pow_pos (by decide)
  show compareOfLessAndEq a b = compareOfLessAndEq _ _
  unfold compareOfLessAndEq
  have h1 : a < b ↔ a * 2 ^ k < b * 2 ^ k := ⟨fun h => Int.mul_lt_mul_of_pos_right h hp, fun h => Int.lt_of_mul_lt_mul_right h (Int.le_of_lt hp)⟩
  have h2 : a = b ↔ a * 2 ^ k = b * 2 ^ k := ⟨fun h => by rw [h], fun h => Int.eq_of_mul_eq_mul_right (by omega) h⟩
  simp only [h1, h2]
theorem signed_val (s : Bool) (m up : Nat) (k : Nat) : signed s m up * 2 ^ k = if s then -((m * 2 ^ (up + k) : Nat) : Int) else ((m * 2 ^ (up + k) : Nat) : Int) := by
  unfold signed
  rw [Nat.shiftLeft_eq, Nat.pow_add, ← Nat.mul_assoc]
  cases s
  · simp
  · simp [Int.neg_mul]
theorem cmp_int {a b c d : Int} (h1 : a < b ↔ c < d) (h2 : a = b ↔ c = d) : compare a b = compare c d := by
  show compareOfLessAndEq a b = compareOfLessAndEq c d
  unfold compareOfLessAndEq
  simp only [h1, h2]
/-- Two floats that are no NaN stand as their keys do. -/
theorem order_key {x y : Nat} (hx : x % 9223372036854775808 ≤ 9218868437227405312) (hy : y % 9223372036854775808 ≤ 9218868437227405312) : double.order x y = some (compare (keyF x) (keyF y)) := by
  unfold Format.order
  by_cases h1 : x % 9223372036854775808 < 9218868437227405312
  · obtain ⟨m, p, e1, hp, hm⟩ := read_number h1
    by_cases h2 : y % 9223372036854775808 < 9218868437227405312
    · obtain ⟨n, q, e2, hq, hn⟩ := read_number h2
      rw [e1, e2]
      show some (compare _ _) = _
      congr 1
      rw [cmp_int_mul _ _ (min p q + 1074).toNat, signed_val, signed_val]
      have e3 : (p - min p q).toNat + (min p q + 1074).toNat = (p + 1074).toNat := by omega
      have e4 : (q - min p q).toNat + (min p q + 1074).toNat = (q + 1074).toNat := by omega
      rw [e3, e4, hm, hn]
      unfold keyF
      have a1 := @magF_iff (x % 9223372036854775808) (y % 9223372036854775808)
      have a2 := @magF_iff (y % 9223372036854775808) (x % 9223372036854775808)
      have z1 := @magF_iff 0 (x % 9223372036854775808)
      have z2 := @magF_iff 0 (y % 9223372036854775808)
      have z0 : magF 0 = 0 := rfl
      rw [z0] at z1 z2
      generalize magF (x % 9223372036854775808) = M at *
      generalize magF (y % 9223372036854775808) = N at *
      generalize x % 9223372036854775808 = r at *
      generalize y % 9223372036854775808 = s at *
      by_cases s1 : x / 9223372036854775808 % 2 = 1 <;> by_cases s2 : y / 9223372036854775808 % 2 = 1 <;> simp only [s1, s2, beq_self_eq_true, if_true, if_false, beq_iff_eq] <;> apply cmp_int <;> omega
    · have e2 : double.read y = .infinity (y / 9223372036854775808 % 2 == 1) := by rw [read_double, if_neg (by omega), if_neg h2, if_pos (by omega)]
      rw [e1, e2]
      show some (if _ then Ordering.gt else Ordering.lt) = _
      congr 1
      unfold keyF
      have e3 : y % 9223372036854775808 = 9218868437227405312 := by omega
      rw [e3]
      generalize x % 9223372036854775808 = r at *
      by_cases s2 : y / 9223372036854775808 % 2 = 1
      · simp only [s2, beq_self_eq_true, if_true]
        symm
        show compareOfLessAndEq _ _ = _
        unfold compareOfLessAndEq
        rw [if_neg (by split <;> omega), if_neg (by split <;> omega)]
      · have s2' : (y / 9223372036854775808 % 2 == 1) = false := by rw [beq_eq_false_iff_ne]; exact s2
        rw [s2', if_neg s2]
        symm
        show compareOfLessAndEq _ _ = _
        unfold compareOfLessAndEq
        rw [if_pos (by split <;> omega)]
        rfl
  · have e1 : double.read x = .infinity (x / 9223372036854775808 % 2 == 1) := by rw [read_double, if_neg (by omega), if_neg h1, if_pos (by omega)]
    have e3 : x % 9223372036854775808 = 9218868437227405312 := by omega
    by_cases h2 : y % 9223372036854775808 < 9218868437227405312
    · obtain ⟨n, q, e2, hq, hn⟩ := read_number h2
      rw [e1, e2]
      show some (if _ then Ordering.lt else Ordering.gt) = _
      congr 1
      unfold keyF
      rw [e3]
      generalize y % 9223372036854775808 = r at *
      by_cases s2 : x / 9223372036854775808 % 2 = 1
      · simp only [s2, beq_self_eq_true, if_true]
        symm
        show compareOfLessAndEq _ _ = _
        unfold compareOfLessAndEq
        rw [if_pos (by split <;> omega)]
      · have s2' : (x / 9223372036854775808 % 2 == 1) = false := by rw [beq_eq_false_iff_ne]; exact s2
        rw [s2', if_neg s2]
        symm
        show compareOfLessAndEq _ _ = _
        unfold compareOfLessAndEq
        rw [if_neg (by split <;> omega), if_neg (by split <;> omega)]
        rfl
    · have e2 : double.read y = .infinity (y / 9223372036854775808 % 2 == 1) := by rw [read_double, if_neg (by omega), if_neg h2, if_pos (by omega)]
      have e4 : y % 9223372036854775808 = 9218868437227405312 := by omega
      rw [e1, e2]
      show some (compare _ _) = _
      congr 1
      unfold keyF
      rw [e3, e4]
      have b1 : ∀ z : Nat, z / 9223372036854775808 % 2 = 1 ∨ z / 9223372036854775808 % 2 = 0 := fun z => by omega
      rcases b1 x with s1 | s1 <;> rcases b1 y with s2 | s2 <;> rw [s1, s2] <;> decide
theorem order_nan_left {x y : Nat} (hx : 9218868437227405312 < x % 9223372036854775808) : double.order x y = none := by
  unfold Format.order
  rw [read_double x, if_neg (by omega), if_neg (by omega), if_neg (by omega)]
  rfl
theorem order_nan_right {x y : Nat} (hy : 9218868437227405312 < y % 9223372036854775808) : double.order x y = none := by
  unfold Format.order
  rw [read_double y, if_neg (by omega), if_neg (by omega), if_neg (by omega)]
  cases double.read x <;> rfl
end Go.Proofs.YtinfnkhghmcelaaDoor
