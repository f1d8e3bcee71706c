/- Texts that belong together. -/
import Derived.Test.YtfckdleahljdeaaGreatDoorMDc
/- The nearest float: the number of digits. -/
namespace Go.Proofs.YtfckdleahljdeaaGreatDoor.Nu
open Go.RowKit Go.Maps

def valD (ds : List UInt8) : Nat := ds.foldl (fun N d => N * 10 + d.toNat) 0
theorem valD_snoc (ds : List UInt8) (d : UInt8) : valD (ds ++ [d]) = valD ds * 10 + d.toNat := by simp [valD]
/-- Digits: each at most 9, the first one not 0. -/
def GoodD (ds : List UInt8) : Prop := (∀ d ∈ ds, d.toNat ≤ 9) ∧ ∀ d, ds.head? = some d → d.toNat ≠ 0
theorem fold_val : ∀ (ds : List UInt8) (N : Nat), ds.foldl (fun N d => N * 10 + d.toNat) N = N * 10 ^ ds.length + valD ds
  | [], N => by simp [valD]
  | d :: t, N => by
    unfold valD
    rw [List.foldl_cons, List.foldl_cons, fold_val t (N * 10 + d.toNat), fold_val t (0 * 10 + d.toNat), List.length_cons, Nat.pow_succ, Nat.add_mul, Nat.zero_mul, Nat.zero_add, Nat.mul_assoc, Nat.mul_comm 10]
    omega
theorem valD_cons (d : UInt8) (t : List UInt8) : valD (d :: t) = d.toNat * 10 ^ t.length + valD t := by
  show (d :: t).foldl (fun N d => N * 10 + d.toNat) 0 = _
  rw [List.foldl_cons, fold_val]
  simp
theorem valD_lt : ∀ (ds : List UInt8), (∀ d ∈ ds, d.toNat ≤ 9) → valD ds < 10 ^ ds.length
  | [], _ => by simp [valD]
  | d :: t, h => by
    have h1 := valD_lt t (fun x hx => h x (by simp [hx]))
    have h2 := h d (by simp)
    rw [valD_cons, List.length_cons, Nat.pow_succ]
    have h3 : d.toNat * 10 ^ t.length ≤ 9 * 10 ^ t.length := Nat.mul_le_mul_right _ h2
    omega
theorem valD_pos (ds : List UInt8) (h : ∀ d, ds.head? = some d → d.toNat ≠ 0) (hne : ds ≠ []) : valD ds ≠ 0 := by
  cases ds with
  | nil => exact absurd rfl hne
  | cons d t =>
    have h1 := h d rfl
    rw [valD_cons]
    have h2 : 1 * 10 ^ t.length ≤ d.toNat * 10 ^ t.length := Nat.mul_le_mul_right _ (by omega)
    have h3 : 0 < 10 ^ t.length := Nat.pow_pos (by decide)
    omega
def infB : Nat := 9218868437227405312
def nearN (ds : List UInt8) (p : Int) : Nat :=
  if ds.length = 0 ∨ (ds.length : Int) + p ≤ -324 then 0
  else if 310 ≤ (ds.length : Int) + p then 9218868437227405312
  else quotN (valD ds * 10 ^ p.toNat) (10 ^ (-p).toNat)
theorem pow10_lt {k m : Nat} (h : k ≤ 8 * m) : 10 ^ k ≤ B m := by
  have h1 : 10 ^ k ≤ 16 ^ k := Nat.pow_le_pow_left (by decide) k
  have h2 : (16 : Nat) ^ k = 2 ^ (4 * k) := by rw [Nat.pow_mul]
  have h3 : 2 ^ (4 * k) ≤ B m := pow_le_B (by omega)
  omega

theorem big_not_dec {w : World} {b base N : Nat} {v v0 v1 : Value} (h : w.heap[b]? = some (.cells #[v0, v1] 93 (0, 0))) (hv : Big w base v N) : ¬ v.ownBlock = some b := fun e => by
  obtain ⟨a, c, ds, rfl, hr, _⟩ := hv
  rcases hr.2 with ⟨e1, _⟩ | ⟨g, cap, cur, e1, _, hg, _⟩
  · rw [e1] at e; cases e
  · rw [e1] at e
    obtain rfl : g = b := by simpa [Value.ownBlock] using e
    rw [h] at hg
    injection hg with h9
    injection h9 with _ h8
    exact absurd h8 (by decide)
theorem B_lt {j k : Nat} (h : j < k) : B j < B k := Nat.pow_lt_pow_right (by decide) h
theorem near_small {ds : List UInt8} {p : Int} (hg : ∀ d ∈ ds, d.toNat ≤ 9) (hl : ds.length ≤ 1000) (h1 : -324 < (ds.length : Int) + p) (h2 : (ds.length : Int) + p < 310) : valD ds * 10 ^ p.toNat < B 200 ∧ 10 ^ (-p).toNat ≤ B 200 := by
  have h3 := valD_lt ds hg
  have h4 : valD ds * 10 ^ p.toNat < 10 ^ ds.length * 10 ^ p.toNat := Nat.mul_lt_mul_of_pos_right h3 (Nat.pow_pos (by decide))
  rw [← Nat.pow_add] at h4
  have h5 := pow10_lt (k := ds.length + p.toNat) (m := 200) (by omega)
  exact ⟨by omega, pow10_lt (by omega)⟩
theorem Big.zero (w : World) (base : Nat) : Big w base (.slice none 0 0) 0 := ⟨none, 0, [], rfl, World.ownsRow_nil _ _ _ _, rfl, Norm.nil⟩

set_option maxRecDepth 100000 in
set_option maxHeartbeats 1500000 in
theorem nearest_any (a : Option Addr) (c : Nat) (ds : List UInt8) (p : Int) (base : Nat) (w : World) (hrow : w.ownsRow base 5 1 (.slice a ds.length c) ds.length (u8s ds)) (hg : GoodD ds) (hl : ds.length ≤ 400) (hp1 : -2000000 ≤ p) (hp2 : p ≤ 2000000) :
    Calls Tryz.prog 61 #[.agg #[.slice a ds.length c, .int .i64 p]] w fun e w' => e = .returned (.int .u64 (nearN ds p : Nat)) ∧ Below w.heap.size w w' := by
  have HROW : Hid (w.ownsRow base 5 1 (.slice a ds.length c) ds.length (u8s ds)) := hrow
  have HG : Hid (GoodD ds) := hg
  have hbox := heap_alloc_new w (.cells #[.slice a ds.length c, .int .i64 p] 93)
  obtain ⟨cd0, cd1, fd0, fd1⟩ := dec_cells hbox
  have hb1 : Below w.heap.size w (w.alloc (.cells #[.slice a ds.length c, .int .i64 p] 93)) := (Below.refl _ _).alloc (Nat.le_refl _) _
  clear hrow hg hbox
  by_cases h0 : ds.length = 0
  · have HN : Hid (nearN ds p = 0) := by show _ = _; unfold nearN; rw [if_pos (Or.inl h0)]
    obtain rfl : ds = [] := List.eq_nil_of_length_eq_zero h0
    go_enter Tryz.func61, Tryz.ntmps61
    go_wp2
    go_ret
    exact ⟨by rw [HN.out]; rfl, hb1⟩
  · by_cases h1 : (ds.length : Int) + p ≤ -324
    · have HN : Hid (nearN ds p = 0) := by show _ = _; unfold nearN; rw [if_pos (Or.inr h1)]
      have h0' : ((ds.length : Int) == 0) = false := by rw [beq_eq_false_iff_ne]; omega
      go_enter Tryz.func61, Tryz.ntmps61
      go_wp2
      go_ret
      exact ⟨by rw [HN.out]; rfl, hb1⟩
    · by_cases h2 : 310 ≤ (ds.length : Int) + p
      · have HN : Hid (nearN ds p = 9218868437227405312) := by show _ = _; unfold nearN; rw [if_neg (by omega), if_pos h2]
        have h0' : ((ds.length : Int) == 0) = false := by rw [beq_eq_false_iff_ne]; omega
        go_enter Tryz.func61, Tryz.ntmps61
        go_wp2
        go_ret
        exact ⟨by rw [HN.out]; rfl, hb1⟩
      · have h0' : ((ds.length : Int) == 0) = false := by rw [beq_eq_false_iff_ne]; omega
        go_enter Tryz.func61, Tryz.ntmps61
        go_wp2
        go_loopw [4, 27] (fun s i wr => ∃ k : Nat, k ≤ ds.length ∧ i = .int .i64 k ∧ Hid (Big wr w.heap.size s (valD (ds.take k)) ∧ wr.heap[w.heap.size]? = some (.cells #[.slice a ds.length c, .int .i64 p] 93 (0, 0)) ∧ Below w.heap.size w wr)) (fun _ i _ => ds.length - (intOf i).toNat)
        case atStart => exact ⟨0, Nat.zero_le _, rfl, Big.zero _ _, heap_alloc_new w _, hb1⟩
        case round =>
          obtain ⟨k, hk, rfl, hI⟩ := hrel
          obtain ⟨hB, hx, hbl⟩ := hI.out
          have hsz := hbl.size
          clear cd0 cd1 fd0 fd1
          by_cases hlt : k < ds.length
          · have hr2 := row_below HROW.out hbl
            obtain ⟨d, hd⟩ : ∃ d, d = ds[k] := ⟨_, rfl⟩
            obtain ⟨g, rfl⟩ := row_some hr2 (by omega)
            have hc0 : wr.cell? ⟨g, k, none⟩ = some (.int .u8 d.toNat) := by
              have h9 := hr2.cells (g := g) rfl k (.int .u8 d.toNat) (by simp [u8s, hd, hlt])
              rw [Addr.add_lit, Nat.zero_add] at h9
              exact h9
            have hd9 : d.toNat ≤ 9 := HG.out.1 d (by rw [hd]; exact List.getElem_mem hlt)
            have hsm : valD (ds.take k) < B 1000 := by
              have h8 := valD_lt (ds.take k) (fun x hx => HG.out.1 x (List.mem_of_mem_take hx))
              have h7 := pow10_lt (k := (ds.take k).length) (m := 1000) (by simp; omega)
              omega
            have hcall := grown_any w.heap.size u4 (valD (ds.take k)) 10 d.toNat wr hB (by omega) (by omega) (by omega) hsm hsz
            have HV : Hid (valD (ds.take (k + 1)) = valD (ds.take k) * 10 + d.toNat) := by
              show _ = _
              rw [List.take_succ_eq_append_getElem hlt, valD_snoc, hd]
            have HX : Hid (wr.heap[w.heap.size]? = some (.cells #[.slice (some ⟨g, 0, none⟩) ds.length c, .int .i64 p] 93 (0, 0))) := hx
            have HB : Hid (Big wr w.heap.size u4 (valD (ds.take k))) := hB
            have HBL : Hid (Below w.heap.size w wr) := hbl
            clear hI hB hx hbl hr2 hd hsm
            generalize d.toNat = y at *
            go_wp2_with (go_at_call 88; refine hcall.mono ?_; clear hcall; rintro e w2 ⟨v2, rfl, hv2, hs2⟩)
            go_roundw
            case rel =>
              refine ⟨k + 1, by omega, by go_num, ?_, ?_, HBL.out.trans (hs2.below HB.out hsz)⟩
              · rw [HV.out]; exact hv2
              · exact hs2.1.heap HX.out (big_not_dec HX.out HB.out)
            case measure => simp [intOf]; omega
          · obtain rfl : k = ds.length := by omega
            rw [List.take_length] at hB
            obtain ⟨hq1, hq2⟩ := near_small HG.out.1 (by omega) (by omega) (by omega)
            have hB2 : B 200 ≤ B 400 := B_mono (by decide)
            have hB9 : B 200 < B 999 := B_lt (by decide)
            have hten := tens_any w.heap.size u4 (valD ds) p wr hB (by omega) (by omega) (by omega) hsz
            obtain ⟨A, hA⟩ : ∃ A, A = valD ds * 10 ^ p.toNat := ⟨_, rfl⟩
            obtain ⟨D, hD⟩ : ∃ D, D = 10 ^ (-p).toNat := ⟨_, rfl⟩
            rw [← hA] at hten hq1
            rw [← hD] at hq2
            have hA0 : A ≠ 0 := by
              rw [hA]
              have h9 := valD_pos ds HG.out.2 (fun e => h0 (by rw [e]; rfl))
              exact Nat.mul_ne_zero h9 (Nat.ne_of_gt (Nat.pow_pos (by decide)))
            have hD0 : D ≠ 0 := by rw [hD]; exact Nat.ne_of_gt (Nat.pow_pos (by decide))
            have HN : Hid (nearN ds p = quotN A D) := by
              show _ = _
              unfold nearN
              rw [if_neg (by omega), if_neg (by omega), ← hA, ← hD]
            have hlA : A.log2 < 32 * 90 := by
              have h9 : A < B 90 := by
                rw [hA]
                have h3 := valD_lt ds HG.out.1
                have h4 : valD ds * 10 ^ p.toNat < 10 ^ ds.length * 10 ^ p.toNat := Nat.mul_lt_mul_of_pos_right h3 (Nat.pow_pos (by decide))
                rw [← Nat.pow_add] at h4
                have h5 := pow10_lt (k := ds.length + p.toNat) (m := 90) (by omega)
                omega
              exact log_le h9 hA0
            have HQ : Hid (∀ W v u, BigAt W v A → BigAt W u D → Calls Tryz.prog 91 #[v, u] W fun e w' => e = .returned (.int .u64 (quotN A D : Nat)) ∧ Below W.heap.size W w') := fun W v u b1 b2 => quot_any v u A D W b1 b2 (by omega) (by have := B_lt (show 200 < 400 by decide); omega) hA0 hD0 (by omega)
            have HNO : Hid (∀ W, Calls Tryz.prog 90 #[.int .u64 1] W fun e w' => ∃ v', e = .returned v' ∧ Big w' W.heap.size v' 1 ∧ Below W.heap.size W w') := fun W => naturalOf_any 1 W (by decide)
            have HTE : Hid (∀ W b v, Big W b v 1 → b ≤ W.heap.size → Calls Tryz.prog 89 #[v, .int .i64 (IntKind.i64.wrap (-p))] W fun e w' => ∃ v', e = .returned v' ∧ Big w' b v' D ∧ Step W w' v v') := fun W b v hb hs => by
              rw [wrapI (by omega) (by omega)]
              have h9 := tens_any b v 1 (-p) W hb (by omega) (by omega) (by rw [Nat.one_mul, ← hD]; omega) hs
              rw [Nat.one_mul, ← hD] at h9
              exact h9
            have HX : Hid (wr.heap[w.heap.size]? = some (.cells #[.slice a ds.length c, .int .i64 p] 93 (0, 0))) := hx
            have HB : Hid (Big wr w.heap.size u4 (valD ds)) := hB
            have HBL : Hid (Below w.heap.size w wr) := hbl
            obtain ⟨cx0, cx1, fx0, fx1⟩ := dec_cells hx
            clear hI hB hx hbl hq1 hq2 hA hD hB2 hB9 hlA
            go_wp2_with (go_at_call 89; refine hten.mono ?_; clear hten; rintro e w2 ⟨v2, rfl, hv2, hs2⟩; have hx2 := hs2.1.heap HX.out (big_not_dec HX.out HB.out); obtain ⟨cy0, cy1, fy0, fy1⟩ := dec_cells hx2; have hbl2 := HBL.out.trans (hs2.below HB.out hsz); have hsz2 := hbl2.size)
            have hmx : Tryz.prog.follows .mixedOrders = true := by kernel_rfl
            have hxl : w.heap.size < w2.heap.size := (Array.getElem?_eq_some_iff.1 hx2).1
            go_region_with (first
              | (go_at_call 90; refine (HNO.out _).mono ?_; rintro e w3 ⟨v3, rfl, hv3, hb3⟩; have cz1 := (hb3.cell (p := ⟨w.heap.size, 1, none⟩) hxl).trans cy1)
              | (go_at_call 89; refine (HTE.out _ _ _ hv3 hb3.size).mono ?_; rintro e w4 ⟨v4, rfl, hv4, hs4⟩))
            all_goals
              have hv2' := ((hv2.drewN 1).below hb3).kept hs4.1 (fun k h1 h2 => by
                have q1 := (hv3.lt k h2).1
                have q2 := (hv2.lt k h1).2
                simp at q1
                omega)
              have hq := HQ.out _ _ _ hv2'.at hv4.at
              have hbd := below_drewN hbl2 1
              have hb03 := hbd.trans (hb3.mono hbd.size)
              have hb04 := hb03.trans ((hs4.below hv3 hb3.size).mono hbd.size)
              go_wp2_with (go_at_call 91; refine hq.mono ?_; clear hq; rintro e w5 ⟨rfl, hb5⟩)
              go_ret
              exact ⟨by rw [HN.out]; rfl, hb04.trans (hb5.mono hb04.size)⟩

end Go.Proofs.YtfckdleahljdeaaGreatDoor.Nu

/- What is read of a text is digits, the first one not 0. -/
namespace Go.Proofs.YtfckdleahljdeaaGreatDoor.Nu
open Go.RowKit Go.Maps

theorem GoodD.snoc {ds : List UInt8} (h : GoodD ds) {d : UInt8} (h9 : d.toNat ≤ 9) (h0 : d.toNat ≠ 0 ∨ ds ≠ []) : GoodD (ds ++ [d]) := by
  refine ⟨fun x hx => ?_, fun x hx => ?_⟩
  · rcases List.mem_append.1 hx with h1 | h1
    · exact h.1 x h1
    · rw [List.mem_singleton.1 h1]; exact h9
  · cases ds with
    | nil =>
      simp at hx
      subst hx
      rcases h0 with h1 | h1
      · exact h1
      · exact absurd rfl h1
    | cons y t => exact h.2 x (by simpa using hx)
theorem scan_good : ∀ (l ds : List UInt8) (p : Int) (n : Nat) (pt : Bool), GoodD ds →
    GoodD (scanD l ds p n pt).1 ∧ (scanD l ds p n pt).1.length ≤ ds.length + l.length ∧ p - l.length ≤ (scanD l ds p n pt).2.1 ∧ (scanD l ds p n pt).2.1 ≤ p
  | [], ds, p, n, pt, h => by simp [scanD]; exact h
  | b :: t, ds, p, n, pt, h => by
    unfold scanD
    split
    · rename_i hd
      have hg : GoodD (if b.toNat ≠ 48 ∨ ds ≠ [] then ds ++ [UInt8.ofNat (b.toNat - 48)] else ds) := by
        split
        · rename_i h1
          have e : (UInt8.ofNat (b.toNat - 48)).toNat = b.toNat - 48 := by rw [UInt8.toNat_ofNat']; omega
          refine h.snoc (by omega) ?_
          rcases h1 with h2 | h2
          · left; omega
          · exact Or.inr h2
        · exact h
      have hl : (if b.toNat ≠ 48 ∨ ds ≠ [] then ds ++ [UInt8.ofNat (b.toNat - 48)] else ds).length ≤ ds.length + 1 := by split <;> simp
      obtain ⟨h1, h2, h3, h4⟩ := scan_good t _ (if pt = true then p - 1 else p) (n + 1) pt hg
      have hp : p - 1 ≤ (if pt = true then p - 1 else p) ∧ (if pt = true then p - 1 else p) ≤ p := by split <;> omega
      refine ⟨h1, ?_, ?_, ?_⟩
      · simp only [List.length_cons]; omega
      · simp only [List.length_cons]; omega
      · omega
    · split
      · obtain ⟨h1, h2, h3, h4⟩ := scan_good t ds p n true h
        refine ⟨h1, ?_, ?_, h4⟩
        · simp only [List.length_cons]; omega
        · simp only [List.length_cons]; omega
      · refine ⟨h, by simp, ?_, Int.le_refl _⟩
        simp only [List.length_cons]; omega
theorem decR_good {s : ByteArray} {ds : List UInt8} {p : Int} (h : decR s = some (ds, p)) (hs : s.size ≤ 400) : GoodD ds ∧ ds.length ≤ 400 ∧ -2000000 ≤ p ∧ p ≤ 2000000 := by
  have hg := scan_good s.data.toList [] 0 0 false ⟨fun _ h => (by cases h), fun _ h => (by cases h)⟩
  have hl : s.data.toList.length = s.size := by simp
  unfold decR at h
  generalize scanD s.data.toList [] 0 0 false = r at *
  obtain ⟨ds1, p1, n, rest⟩ := r
  simp only at h hg
  obtain ⟨g1, g2, g3, g4⟩ := hg
  have gl : ds1.length ≤ 400 := by simp at g2; omega
  split at h
  · cases h
  · cases rest with
    | nil =>
      simp at h
      obtain ⟨rfl, rfl⟩ := h
      exact ⟨g1, gl, by omega, by omega⟩
    | cons b t =>
      simp only at h
      split at h
      · have he := expR_le ⟨t.toArray⟩
        split at h
        · simp at h
          obtain ⟨rfl, rfl⟩ := h
          exact ⟨g1, gl, by omega, by omega⟩
        · cases h
      · cases h
theorem quotB_le (A D : Nat) (t : Int) : quotB A D t ≤ 9218868437227405312 := by
  unfold quotB
  split
  · omega
  · exact Nat.min_le_right _ _
theorem nearN_le (ds : List UInt8) (p : Int) : nearN ds p ≤ 9218868437227405312 := by
  unfold nearN
  split
  · omega
  · split
    · exact Nat.le_refl _
    · unfold quotN
      split <;> exact quotB_le _ _ _

end Go.Proofs.YtfckdleahljdeaaGreatDoor.Nu

/- Parse. -/
namespace Go.Proofs.YtfckdleahljdeaaGreatDoor.Nu
open Go.RowKit Go.Maps

def sgB (neg : Bool) (raw : Nat) : Nat := if neg then raw + 9223372036854775808 else raw
def parseR (s : ByteArray) : Nat × Int :=
  if 400 < s.size then (0, 8)
  else if (cutB s).1.data.toList.map low = [110, 97, 110] then (9221120237041090561, 0)
  else if (cutB s).1.data.toList.map low = [105, 110, 102] ∨ (cutB s).1.data.toList.map low = [105, 110, 102, 105, 110, 105, 116, 121] then (sgB (cutB s).2 9218868437227405312, 0)
  else match decR (cutB s).1 with
    | none => (0, 8)
    | some (ds, p) => (sgB (cutB s).2 (nearN ds p), 0)
theorem or_sign {raw : Nat} (h : raw ≤ 9218868437227405312) : bits .or .u64 (raw : Int) 9223372036854775808 = ((raw + 9223372036854775808 : Nat) : Int) := by
  have h1 := u64_or_nat raw 9223372036854775808 (by omega) (by decide)
  have e11 : 9223372036854775808 ||| raw = 9223372036854775808 + raw := nat_join 63 9223372036854775808 raw (by decide) (by omega)
  rw [Nat.or_comm, e11] at h1
  rw [Nat.add_comm]
  exact h1

theorem or_inf : bits .or .u64 9218868437227405312 9223372036854775808 = 18442240474082181120 := by kernel_rfl
theorem ret_f {a b : Nat} (h : a = b) : Ending.returned (.tuple #[.float .f64 a, .int .i64 0]) = .returned (.tuple #[.float .f64 b, .int .i64 0]) := by rw [h]
theorem frombits_run (n : Int) (W : World) : (callFunc 59 #[.int .u64 n]).run Tryz.prog W = .ok (.value (.float .f64 n.toNat)) W := by kernel_rfl

set_option maxRecDepth 100000 in
set_option maxHeartbeats 1500000 in
theorem parse_any (s : ByteArray) (w : World) (hs : s.size ≤ maxLen) : Calls Tryz.prog 38 #[.string s] w fun e w' => e = .returned (.tuple #[.float .f64 (parseR s).1, .int .i64 (parseR s).2]) ∧ Below w.heap.size w w' := by
  unfold maxLen at hs
  have hfb := frombits_run
  by_cases hbig : 400 < s.size
  · have HP : Hid (parseR s = (0, 8)) := by show _ = _; unfold parseR; rw [if_pos hbig]
    go_enter Tryz.func38, Tryz.ntmps38
    go_wp2
    go_ret2
    exact ⟨by rw [HP.out]; rfl, Below.refl _ _⟩
  · have hcut := cutSign_any s w (by omega)
    have hts := cutB_size s
    have HP : Hid (parseR s = (if (cutB s).1.data.toList.map low = [110, 97, 110] then (9221120237041090561, 0)
      else if (cutB s).1.data.toList.map low = [105, 110, 102] ∨ (cutB s).1.data.toList.map low = [105, 110, 102, 105, 110, 105, 116, 121] then (sgB (cutB s).2 9218868437227405312, 0)
      else match decR (cutB s).1 with
        | none => (0, 8)
        | some (ds, p) => (sgB (cutB s).2 (nearN ds p), 0) : Nat × Int)) := by show _ = _; unfold parseR; rw [if_neg hbig]
    generalize (cutB s).1 = t at *
    generalize (cutB s).2 = neg at *
    have HLO : Hid (∀ W, Calls Tryz.prog 58 #[.string t] W fun e w' => e = .returned (.string ⟨(t.data.toList.map low).toArray⟩) ∧ Below W.heap.size W w') := fun W => lower_any t W (by omega)
    obtain ⟨l, hl⟩ : ∃ l, l = t.data.toList.map low := ⟨_, rfl⟩
    obtain ⟨ls, hls⟩ : ∃ ls : ByteArray, ls = ⟨l.toArray⟩ := ⟨_, rfl⟩
    have hltl : ls.toList = l := by rw [hls, ByteArray.toList_eq]
    rw [← hl] at HP HLO
    rw [← hls] at HLO
    clear hl hls
    by_cases hnan : l = [110, 97, 110]
    · rw [if_pos hnan] at HP
      subst hnan
      go_enter Tryz.func38, Tryz.ntmps38
      go_wp2_with (first
        | (go_at_call 57; refine hcut.mono ?_; clear hcut; rintro e w1 ⟨rfl, q, rfl⟩; have hbq := below_drewN (Below.refl w.heap.size w) q)
        | (go_at_call 58; refine (HLO.out _).mono ?_; clear HLO; rintro e w2 ⟨rfl, hb2⟩; have hb02 := hbq.trans (hb2.mono hbq.size)))
      go_ret2
      exact ⟨by rw [HP.out]; rfl, hb02⟩
    · rw [if_neg hnan] at HP
      by_cases hinf : l = [105, 110, 102]
      · rw [if_pos (Or.inl hinf)] at HP
        subst hinf
        have hn1 : ¬ ls.toList = [110, 97, 110] := by rw [hltl]; decide
        clear hnan
        cases neg with
        | false =>
          go_enter Tryz.func38, Tryz.ntmps38
          go_wp2_with (first
                | (go_at_call 57; refine hcut.mono ?_; clear hcut; rintro e w1 ⟨rfl, q, rfl⟩; have hbq := below_drewN (Below.refl w.heap.size w) q)
                | (go_at_call 58; refine (HLO.out _).mono ?_; clear HLO; rintro e w2 ⟨rfl, hb2⟩; have hb02 := hbq.trans (hb2.mono hbq.size)))
          go_ret2
          exact ⟨by rw [HP.out]; exact ret_f (by simp [sgB]), hb02⟩
        | true =>
          have hors : bits .or .u64 9218868437227405312 9223372036854775808 = 18442240474082181120 := or_inf
          go_enter Tryz.func38, Tryz.ntmps38
          go_wp2_with (first
                | (go_at_call 57; refine hcut.mono ?_; clear hcut; rintro e w1 ⟨rfl, q, rfl⟩; have hbq := below_drewN (Below.refl w.heap.size w) q)
                | (go_at_call 58; refine (HLO.out _).mono ?_; clear HLO; rintro e w2 ⟨rfl, hb2⟩; have hb02 := hbq.trans (hb2.mono hbq.size)))
          go_ret2
          exact ⟨by rw [HP.out]; exact ret_f (by simp [sgB]), hb02⟩
      · by_cases hinf2 : l = [105, 110, 102, 105, 110, 105, 116, 121]
        · rw [if_pos (Or.inr hinf2)] at HP
          clear hinf
          have hinf := hinf2
          clear hinf2
          subst hinf
          have hn1 : ¬ ls.toList = [110, 97, 110] := by rw [hltl]; decide
          clear hnan
          cases neg with
          | false =>
            go_enter Tryz.func38, Tryz.ntmps38
            go_wp2_with (first
                  | (go_at_call 57; refine hcut.mono ?_; clear hcut; rintro e w1 ⟨rfl, q, rfl⟩; have hbq := below_drewN (Below.refl w.heap.size w) q)
                  | (go_at_call 58; refine (HLO.out _).mono ?_; clear HLO; rintro e w2 ⟨rfl, hb2⟩; have hb02 := hbq.trans (hb2.mono hbq.size)))
            go_ret2
            exact ⟨by rw [HP.out]; exact ret_f (by simp [sgB]), hb02⟩
          | true =>
            have hors : bits .or .u64 9218868437227405312 9223372036854775808 = 18442240474082181120 := or_inf
            go_enter Tryz.func38, Tryz.ntmps38
            go_wp2_with (first
                  | (go_at_call 57; refine hcut.mono ?_; clear hcut; rintro e w1 ⟨rfl, q, rfl⟩; have hbq := below_drewN (Below.refl w.heap.size w) q)
                  | (go_at_call 58; refine (HLO.out _).mono ?_; clear HLO; rintro e w2 ⟨rfl, hb2⟩; have hb02 := hbq.trans (hb2.mono hbq.size)))
            go_ret2
            exact ⟨by rw [HP.out]; exact ret_f (by simp [sgB]), hb02⟩
        · rw [if_neg (fun h => h.elim hinf hinf2)] at HP
          have hn1 : (ls.toList == [110, 97, 110]) = false := by rw [beq_eq_false_iff_ne, hltl]; exact hnan
          have hn2 : (ls.toList == [105, 110, 102]) = false := by rw [beq_eq_false_iff_ne, hltl]; exact hinf
          have hn3 : (ls.toList == [105, 110, 102, 105, 110, 105, 116, 121]) = false := by rw [beq_eq_false_iff_ne, hltl]; exact hinf2
          clear hltl hnan hinf hinf2
          cases hdr : decR t with
          | none =>
            rw [hdr] at HP
            have HRD : Hid (∀ W, Calls Tryz.prog 60 #[.string t] W fun e w' => (∃ a n c p, e = .returned (.tuple #[.agg #[.slice a n c, .int .i64 p], .bool false])) ∧ Below W.heap.size W w') := fun W => by
              have h9 := readDecimal_any t W (by omega)
              rw [hdr] at h9
              exact h9
            clear hdr
            go_enter Tryz.func38, Tryz.ntmps38
            go_wp2_with (first
              | (go_at_call 57; refine hcut.mono ?_; clear hcut; rintro e w1 ⟨rfl, q, rfl⟩; have hbq := below_drewN (Below.refl w.heap.size w) q)
              | (go_at_call 58; refine (HLO.out _).mono ?_; clear HLO; rintro e w2 ⟨rfl, hb2⟩; have hb02 := hbq.trans (hb2.mono hbq.size))
              | (go_at_call 60; refine (HRD.out _).mono ?_; clear HRD; rintro e w3 ⟨⟨a, n, c, p, rfl⟩, hb3⟩; have hb03 := hb02.trans (hb3.mono hb02.size); have hba : Below w3.heap.size w3 (w3.alloc (.cells #[.slice a n c, .int .i64 p] 93)) := (Below.refl _ _).alloc (Nat.le_refl _) _; have hb04 := hb03.trans (hba.mono hb03.size)))
            go_ret2
            exact ⟨by rw [HP.out]; rfl, hb04⟩
          | some dp =>
            obtain ⟨ds, p⟩ := dp
            rw [hdr] at HP
            obtain ⟨hg1, hg2, hg3, hg4⟩ := decR_good hdr (by omega)
            have hnl := nearN_le ds p
            have HRD : Hid (∀ W, Calls Tryz.prog 60 #[.string t] W fun e w' => (∃ a c, e = .returned (.tuple #[.agg #[.slice a ds.length c, .int .i64 p], .bool true]) ∧ w'.ownsRow W.heap.size 5 1 (.slice a ds.length c) ds.length (u8s ds)) ∧ Below W.heap.size W w') := fun W => by
              have h9 := readDecimal_any t W (by omega)
              rw [hdr] at h9
              exact h9
            clear hdr
            cases neg with
            | false =>
              go_enter Tryz.func38, Tryz.ntmps38
              go_wp2_with (first
                  | (go_at_call 57; refine hcut.mono ?_; clear hcut; rintro e w1 ⟨rfl, q, rfl⟩; have hbq := below_drewN (Below.refl w.heap.size w) q)
                  | (go_at_call 58; refine (HLO.out _).mono ?_; clear HLO; rintro e w2 ⟨rfl, hb2⟩; have hb02 := hbq.trans (hb2.mono hbq.size))
                  | (go_at_call 60; refine (HRD.out _).mono ?_; clear HRD; rintro e w3 ⟨⟨a, c, rfl, hr3⟩, hb3⟩; have hb03 := hb02.trans (hb3.mono hb02.size); have hba : Below w3.heap.size w3 (w3.alloc (.cells #[.slice a ds.length c, .int .i64 p] 93)) := (Below.refl _ _).alloc (Nat.le_refl _) _; have hb04 := hb03.trans (hba.mono hb03.size); have hne := nearest_any a c ds p _ (w3.alloc (.cells #[.slice a ds.length c, .int .i64 p] 93)) (World.ownsRow.alloc hr3 _) hg1 hg2 hg3 hg4)
                  | (go_at_call 61; refine hne.mono ?_; clear hne; rintro e w5 ⟨rfl, hb5⟩; have hb05 := hb04.trans (hb5.mono hb04.size)))
              go_ret2
              exact ⟨by rw [HP.out]; exact ret_f (by simp [sgB]), hb05⟩
            | true =>
              have hors := or_sign hnl
              go_enter Tryz.func38, Tryz.ntmps38
              go_wp2_with (first
                  | (go_at_call 57; refine hcut.mono ?_; clear hcut; rintro e w1 ⟨rfl, q, rfl⟩; have hbq := below_drewN (Below.refl w.heap.size w) q)
                  | (go_at_call 58; refine (HLO.out _).mono ?_; clear HLO; rintro e w2 ⟨rfl, hb2⟩; have hb02 := hbq.trans (hb2.mono hbq.size))
                  | (go_at_call 60; refine (HRD.out _).mono ?_; clear HRD; rintro e w3 ⟨⟨a, c, rfl, hr3⟩, hb3⟩; have hb03 := hb02.trans (hb3.mono hb02.size); have hba : Below w3.heap.size w3 (w3.alloc (.cells #[.slice a ds.length c, .int .i64 p] 93)) := (Below.refl _ _).alloc (Nat.le_refl _) _; have hb04 := hb03.trans (hba.mono hb03.size); have hne := nearest_any a c ds p _ (w3.alloc (.cells #[.slice a ds.length c, .int .i64 p] 93)) (World.ownsRow.alloc hr3 _) hg1 hg2 hg3 hg4)
                  | (go_at_call 61; refine hne.mono ?_; clear hne; rintro e w5 ⟨rfl, hb5⟩; have hb05 := hb04.trans (hb5.mono hb04.size)))
              go_ret2
              exact ⟨by rw [HP.out]; exact ret_f (by simp [sgB]), hb05⟩

end Go.Proofs.YtfckdleahljdeaaGreatDoor.Nu
