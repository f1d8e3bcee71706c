/- Texts that belong together. -/
import Derived.Test.YtdadagbkkaeejaaGreatDoorMDd
/- What is read of a text is digits, the first one not 0. -/
namespace Go.Proofs.YtdadagbkkaeejaaGreatDoor.Nu
open Go.RowKit Go.Maps

theorem GoodD.snoc {ds : List UInt8} (h : GoodD ds) {d : UInt8} (h9 : d.toNat ≤ 9) (h0 : d.toNat ≠ 0 ∨ ds ≠ []) : GoodD (ds ++ [d]) := by
  refine ⟨fun x hx => ?_, fun x hx => ?_⟩
  · rcases List.mem_append.1 hx with h1 | h1
    · exact h.1 x h1
    · rw [List.mem_singleton.1 h1]; exact h9
  · cases ds with
    | nil =>
      simp at hx
      subst hx
      rcases h0 with h1 | h1
      · exact h1
      · exact absurd rfl h1
    | cons y t => exact h.2 x (by simpa using hx)
theorem scan_good : ∀ (l ds : List UInt8) (p : Int) (n : Nat) (pt : Bool), GoodD ds →
    GoodD (scanD l ds p n pt).1 ∧ (scanD l ds p n pt).1.length ≤ ds.length + l.length ∧ p - l.length ≤ (scanD l ds p n pt).2.1 ∧ (scanD l ds p n pt).2.1 ≤ p
  | [], ds, p, n, pt, h => by simp [scanD]; exact h
  | b :: t, ds, p, n, pt, h => by
    unfold scanD
    split
    · rename_i hd
      have hg : GoodD (if b.toNat ≠ 48 ∨ ds ≠ [] then ds ++ [UInt8.ofNat (b.toNat - 48)] else ds) := by
        split
        · rename_i h1
          have e : (UInt8.ofNat (b.toNat - 48)).toNat = b.toNat - 48 := by rw [UInt8.toNat_ofNat']; omega
          refine h.snoc (by omega) ?_
          rcases h1 with h2 | h2
          · left; omega
          · exact Or.inr h2
        · exact h
      have hl : (if b.toNat ≠ 48 ∨ ds ≠ [] then ds ++ [UInt8.ofNat (b.toNat - 48)] else ds).length ≤ ds.length + 1 := by split <;> simp
      obtain ⟨h1, h2, h3, h4⟩ := scan_good t _ (if pt = true then p - 1 else p) (n + 1) pt hg
      have hp : p - 1 ≤ (if pt = true then p - 1 else p) ∧ (if pt = true then p - 1 else p) ≤ p := by split <;> omega
      refine ⟨h1, ?_, ?_, ?_⟩
      · simp only [List.length_cons]; omega
      · simp only [List.length_cons]; omega
      · omega
    · split
      · obtain ⟨h1, h2, h3, h4⟩ := scan_good t ds p n true h
        refine ⟨h1, ?_, ?_, h4⟩
        · simp only [List.length_cons]; omega
        · simp only [List.length_cons]; omega
      · refine ⟨h, by simp, ?_, Int.le_refl _⟩
        simp only [List.length_cons]; omega
theorem decR_good {s : ByteArray} {ds : List UInt8} {p : Int} (h : decR s = some (ds, p)) (hs : s.size ≤ 400) : GoodD ds ∧ ds.length ≤ 400 ∧ -2000000 ≤ p ∧ p ≤ 2000000 := by
  have hg := scan_good s.data.toList [] 0 0 false ⟨fun _ h => (by cases h), fun _ h => (by cases h)⟩
  have hl : s.data.toList.length = s.size := by simp
  unfold decR at h
  generalize scanD s.data.toList [] 0 0 false = r at *
  obtain ⟨ds1, p1, n, rest⟩ := r
  simp only at h hg
  obtain ⟨g1, g2, g3, g4⟩ := hg
  have gl : ds1.length ≤ 400 := by simp at g2; omega
  split at h
  · cases h
  · cases rest with
    | nil =>
      simp at h
      obtain ⟨rfl, rfl⟩ := h
      exact ⟨g1, gl, by omega, by omega⟩
    | cons b t =>
      simp only at h
      split at h
      · have he := expR_le ⟨t.toArray⟩
        split at h
        · simp at h
          obtain ⟨rfl, rfl⟩ := h
          exact ⟨g1, gl, by omega, by omega⟩
        · cases h
      · cases h
theorem quotB_le (A D : Nat) (t : Int) : quotB A D t ≤ 9218868437227405312 := by
  unfold quotB
  split
  · omega
  · exact Nat.min_le_right _ _
theorem nearN_le (ds : List UInt8) (p : Int) : nearN ds p ≤ 9218868437227405312 := by
  unfold nearN
  split
  · omega
  · split
    · exact Nat.le_refl _
    · unfold quotN
      split <;> exact quotB_le _ _ _

end Go.Proofs.YtdadagbkkaeejaaGreatDoor.Nu

/- Parse. -/
namespace Go.Proofs.YtdadagbkkaeejaaGreatDoor.Nu
open Go.RowKit Go.Maps

def sgB (neg : Bool) (raw : Nat) : Nat := if neg then raw + 9223372036854775808 else raw
def parseR (s : ByteArray) : Nat × Int :=
  if 400 < s.size then (0, 8)
  else if (cutB s).1.data.toList.map low = [110, 97, 110] then (9221120237041090561, 0)
  else if (cutB s).1.data.toList.map low = [105, 110, 102] ∨ (cutB s).1.data.toList.map low = [105, 110, 102, 105, 110, 105, 116, 121] then (sgB (cutB s).2 9218868437227405312, 0)
  else match decR (cutB s).1 with
    | none => (0, 8)
    | some (ds, p) => (sgB (cutB s).2 (nearN ds p), 0)
theorem or_sign {raw : Nat} (h : raw ≤ 9218868437227405312) : bits .or .u64 (raw : Int) 9223372036854775808 = ((raw + 9223372036854775808 : Nat) : Int) := by
  have h1 := u64_or_nat raw 9223372036854775808 (by omega) (by decide)
  have e11 : 9223372036854775808 ||| raw = 9223372036854775808 + raw := nat_join 63 9223372036854775808 raw (by decide) (by omega)
  rw [Nat.or_comm, e11] at h1
  rw [Nat.add_comm]
  exact h1

theorem or_inf : bits .or .u64 9218868437227405312 9223372036854775808 = 18442240474082181120 := by kernel_rfl
theorem ret_f {a b : Nat} (h : a = b) : Ending.returned (.tuple #[.float .f64 a, .int .i64 0]) = .returned (.tuple #[.float .f64 b, .int .i64 0]) := by rw [h]
theorem frombits_run (n : Int) (W : World) : (callFunc 55 #[.int .u64 n]).run Tryz.prog W = .ok (.value (.float .f64 n.toNat)) W := by kernel_rfl

set_option maxRecDepth 100000 in
set_option maxHeartbeats 1500000 in
theorem parse_any (s : ByteArray) (w : World) (hs : s.size ≤ maxLen) : Calls Tryz.prog 41 #[.string s] w fun e w' => e = .returned (.tuple #[.float .f64 (parseR s).1, .int .i64 (parseR s).2]) ∧ Below w.heap.size w w' := by
  unfold maxLen at hs
  have hfb := frombits_run
  by_cases hbig : 400 < s.size
  · have HP : Hid (parseR s = (0, 8)) := by show _ = _; unfold parseR; rw [if_pos hbig]
    go_enter Tryz.func41, Tryz.ntmps41
    go_wp2
    go_ret2
    exact ⟨by rw [HP.out]; rfl, Below.refl _ _⟩
  · have hcut := cutSign_any s w (by omega)
    have hts := cutB_size s
    have HP : Hid (parseR s = (if (cutB s).1.data.toList.map low = [110, 97, 110] then (9221120237041090561, 0)
      else if (cutB s).1.data.toList.map low = [105, 110, 102] ∨ (cutB s).1.data.toList.map low = [105, 110, 102, 105, 110, 105, 116, 121] then (sgB (cutB s).2 9218868437227405312, 0)
      else match decR (cutB s).1 with
        | none => (0, 8)
        | some (ds, p) => (sgB (cutB s).2 (nearN ds p), 0) : Nat × Int)) := by show _ = _; unfold parseR; rw [if_neg hbig]
    generalize (cutB s).1 = t at *
    generalize (cutB s).2 = neg at *
    have HLO : Hid (∀ W, Calls Tryz.prog 54 #[.string t] W fun e w' => e = .returned (.string ⟨(t.data.toList.map low).toArray⟩) ∧ Below W.heap.size W w') := fun W => lower_any t W (by omega)
    obtain ⟨l, hl⟩ : ∃ l, l = t.data.toList.map low := ⟨_, rfl⟩
    obtain ⟨ls, hls⟩ : ∃ ls : ByteArray, ls = ⟨l.toArray⟩ := ⟨_, rfl⟩
    have hltl : ls.toList = l := by rw [hls, ByteArray.toList_eq]
    rw [← hl] at HP HLO
    rw [← hls] at HLO
    clear hl hls
    by_cases hnan : l = [110, 97, 110]
    · rw [if_pos hnan] at HP
      subst hnan
      go_enter Tryz.func41, Tryz.ntmps41
      go_wp2_with (first
        | (go_at_call 53; refine hcut.mono ?_; clear hcut; rintro e w1 ⟨rfl, q, rfl⟩; have hbq := below_drewN (Below.refl w.heap.size w) q)
        | (go_at_call 54; refine (HLO.out _).mono ?_; clear HLO; rintro e w2 ⟨rfl, hb2⟩; have hb02 := hbq.trans (hb2.mono hbq.size)))
      go_ret2
      exact ⟨by rw [HP.out]; rfl, hb02⟩
    · rw [if_neg hnan] at HP
      by_cases hinf : l = [105, 110, 102]
      · rw [if_pos (Or.inl hinf)] at HP
        subst hinf
        have hn1 : ¬ ls.toList = [110, 97, 110] := by rw [hltl]; decide
        clear hnan
        cases neg with
        | false =>
          go_enter Tryz.func41, Tryz.ntmps41
          go_wp2_with (first
                | (go_at_call 53; refine hcut.mono ?_; clear hcut; rintro e w1 ⟨rfl, q, rfl⟩; have hbq := below_drewN (Below.refl w.heap.size w) q)
                | (go_at_call 54; refine (HLO.out _).mono ?_; clear HLO; rintro e w2 ⟨rfl, hb2⟩; have hb02 := hbq.trans (hb2.mono hbq.size)))
          go_ret2
          exact ⟨by rw [HP.out]; exact ret_f (by simp [sgB]), hb02⟩
        | true =>
          have hors : bits .or .u64 9218868437227405312 9223372036854775808 = 18442240474082181120 := or_inf
          go_enter Tryz.func41, Tryz.ntmps41
          go_wp2_with (first
                | (go_at_call 53; refine hcut.mono ?_; clear hcut; rintro e w1 ⟨rfl, q, rfl⟩; have hbq := below_drewN (Below.refl w.heap.size w) q)
                | (go_at_call 54; refine (HLO.out _).mono ?_; clear HLO; rintro e w2 ⟨rfl, hb2⟩; have hb02 := hbq.trans (hb2.mono hbq.size)))
          go_ret2
          exact ⟨by rw [HP.out]; exact ret_f (by simp [sgB]), hb02⟩
      · by_cases hinf2 : l = [105, 110, 102, 105, 110, 105, 116, 121]
        · rw [if_pos (Or.inr hinf2)] at HP
          clear hinf
          have hinf := hinf2
          clear hinf2
          subst hinf
          have hn1 : ¬ ls.toList = [110, 97, 110] := by rw [hltl]; decide
          clear hnan
          cases neg with
          | false =>
            go_enter Tryz.func41, Tryz.ntmps41
            go_wp2_with (first
                  | (go_at_call 53; refine hcut.mono ?_; clear hcut; rintro e w1 ⟨rfl, q, rfl⟩; have hbq := below_drewN (Below.refl w.heap.size w) q)
                  | (go_at_call 54; refine (HLO.out _).mono ?_; clear HLO; rintro e w2 ⟨rfl, hb2⟩; have hb02 := hbq.trans (hb2.mono hbq.size)))
            go_ret2
            exact ⟨by rw [HP.out]; exact ret_f (by simp [sgB]), hb02⟩
          | true =>
            have hors : bits .or .u64 9218868437227405312 9223372036854775808 = 18442240474082181120 := or_inf
            go_enter Tryz.func41, Tryz.ntmps41
            go_wp2_with (first
                  | (go_at_call 53; refine hcut.mono ?_; clear hcut; rintro e w1 ⟨rfl, q, rfl⟩; have hbq := below_drewN (Below.refl w.heap.size w) q)
                  | (go_at_call 54; refine (HLO.out _).mono ?_; clear HLO; rintro e w2 ⟨rfl, hb2⟩; have hb02 := hbq.trans (hb2.mono hbq.size)))
            go_ret2
            exact ⟨by rw [HP.out]; exact ret_f (by simp [sgB]), hb02⟩
        · rw [if_neg (fun h => h.elim hinf hinf2)] at HP
          have hn1 : (ls.toList == [110, 97, 110]) = false := by rw [beq_eq_false_iff_ne, hltl]; exact hnan
          have hn2 : (ls.toList == [105, 110, 102]) = false := by rw [beq_eq_false_iff_ne, hltl]; exact hinf
          have hn3 : (ls.toList == [105, 110, 102, 105, 110, 105, 116, 121]) = false := by rw [beq_eq_false_iff_ne, hltl]; exact hinf2
          clear hltl hnan hinf hinf2
          cases hdr : decR t with
          | none =>
            rw [hdr] at HP
            have HRD : Hid (∀ W, Calls Tryz.prog 56 #[.string t] W fun e w' => (∃ a n c p, e = .returned (.tuple #[.agg #[.slice a n c, .int .i64 p], .bool false])) ∧ Below W.heap.size W w') := fun W => by
              have h9 := readDecimal_any t W (by omega)
              rw [hdr] at h9
              exact h9
            clear hdr
            go_enter Tryz.func41, Tryz.ntmps41
            go_wp2_with (first
              | (go_at_call 53; refine hcut.mono ?_; clear hcut; rintro e w1 ⟨rfl, q, rfl⟩; have hbq := below_drewN (Below.refl w.heap.size w) q)
              | (go_at_call 54; refine (HLO.out _).mono ?_; clear HLO; rintro e w2 ⟨rfl, hb2⟩; have hb02 := hbq.trans (hb2.mono hbq.size))
              | (go_at_call 56; refine (HRD.out _).mono ?_; clear HRD; rintro e w3 ⟨⟨a, n, c, p, rfl⟩, hb3⟩; have hb03 := hb02.trans (hb3.mono hb02.size); have hba : Below w3.heap.size w3 (w3.alloc (.cells #[.slice a n c, .int .i64 p] 95)) := (Below.refl _ _).alloc (Nat.le_refl _) _; have hb04 := hb03.trans (hba.mono hb03.size)))
            go_ret2
            exact ⟨by rw [HP.out]; rfl, hb04⟩
          | some dp =>
            obtain ⟨ds, p⟩ := dp
            rw [hdr] at HP
            obtain ⟨hg1, hg2, hg3, hg4⟩ := decR_good hdr (by omega)
            have hnl := nearN_le ds p
            have HRD : Hid (∀ W, Calls Tryz.prog 56 #[.string t] W fun e w' => (∃ a c, e = .returned (.tuple #[.agg #[.slice a ds.length c, .int .i64 p], .bool true]) ∧ w'.ownsRow W.heap.size 5 1 (.slice a ds.length c) ds.length (u8s ds)) ∧ Below W.heap.size W w') := fun W => by
              have h9 := readDecimal_any t W (by omega)
              rw [hdr] at h9
              exact h9
            clear hdr
            cases neg with
            | false =>
              go_enter Tryz.func41, Tryz.ntmps41
              go_wp2_with (first
                  | (go_at_call 53; refine hcut.mono ?_; clear hcut; rintro e w1 ⟨rfl, q, rfl⟩; have hbq := below_drewN (Below.refl w.heap.size w) q)
                  | (go_at_call 54; refine (HLO.out _).mono ?_; clear HLO; rintro e w2 ⟨rfl, hb2⟩; have hb02 := hbq.trans (hb2.mono hbq.size))
                  | (go_at_call 56; refine (HRD.out _).mono ?_; clear HRD; rintro e w3 ⟨⟨a, c, rfl, hr3⟩, hb3⟩; have hb03 := hb02.trans (hb3.mono hb02.size); have hba : Below w3.heap.size w3 (w3.alloc (.cells #[.slice a ds.length c, .int .i64 p] 95)) := (Below.refl _ _).alloc (Nat.le_refl _) _; have hb04 := hb03.trans (hba.mono hb03.size); have hne := nearest_any a c ds p _ (w3.alloc (.cells #[.slice a ds.length c, .int .i64 p] 95)) (World.ownsRow.alloc hr3 _) hg1 hg2 hg3 hg4)
                  | (go_at_call 57; refine hne.mono ?_; clear hne; rintro e w5 ⟨rfl, hb5⟩; have hb05 := hb04.trans (hb5.mono hb04.size)))
              go_ret2
              exact ⟨by rw [HP.out]; exact ret_f (by simp [sgB]), hb05⟩
            | true =>
              have hors := or_sign hnl
              go_enter Tryz.func41, Tryz.ntmps41
              go_wp2_with (first
                  | (go_at_call 53; refine hcut.mono ?_; clear hcut; rintro e w1 ⟨rfl, q, rfl⟩; have hbq := below_drewN (Below.refl w.heap.size w) q)
                  | (go_at_call 54; refine (HLO.out _).mono ?_; clear HLO; rintro e w2 ⟨rfl, hb2⟩; have hb02 := hbq.trans (hb2.mono hbq.size))
                  | (go_at_call 56; refine (HRD.out _).mono ?_; clear HRD; rintro e w3 ⟨⟨a, c, rfl, hr3⟩, hb3⟩; have hb03 := hb02.trans (hb3.mono hb02.size); have hba : Below w3.heap.size w3 (w3.alloc (.cells #[.slice a ds.length c, .int .i64 p] 95)) := (Below.refl _ _).alloc (Nat.le_refl _) _; have hb04 := hb03.trans (hba.mono hb03.size); have hne := nearest_any a c ds p _ (w3.alloc (.cells #[.slice a ds.length c, .int .i64 p] 95)) (World.ownsRow.alloc hr3 _) hg1 hg2 hg3 hg4)
                  | (go_at_call 57; refine hne.mono ?_; clear hne; rintro e w5 ⟨rfl, hb5⟩; have hb05 := hb04.trans (hb5.mono hb04.size)))
              go_ret2
              exact ⟨by rw [HP.out]; exact ret_f (by simp [sgB]), hb05⟩

end Go.Proofs.YtdadagbkkaeejaaGreatDoor.Nu
