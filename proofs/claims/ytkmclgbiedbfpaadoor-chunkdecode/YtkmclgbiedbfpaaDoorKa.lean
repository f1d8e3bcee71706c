/- take: bits off a row. -/
import Derived.Test.YtkmclgbiedbfpaaDoorK9
namespace Go.Proofs.YtkmclgbiedbfpaaDoor
open Go.RowKit Go.Maps Go.Shelf

def unCells (v : Value) (p t d va ld ws : Int) : Array Value := #[v, .int .i64 p, .int .u64 t, .int .u64 d, .int .u64 va, .int .i64 ld, .int .i64 ws]
/-- An unpacker at U, which has read p bits of ys. -/
def Un (w : World) (U : Nat) (v : Value) (p : Nat) (s : An) : Prop := w.heap[U]? = some (.cells (unCells v p s.t s.d s.v s.lead s.size) 93)
structure Rd (w : World) (U : Nat) (v : Value) (ys : List UInt8) (p : Nat) (s : An) : Prop where
  un : Un w U v p s
  by_ : BytesAt w v ys
  le : p ≤ 8 * ys.length
  len : ys.length ≤ 1000000
theorem Un.cells {w : World} {U : Nat} {v : Value} {p : Nat} {s : An} (h : Un w U v p s) : w.cell? ⟨U, 0, none⟩ = some v ∧ w.cell? ⟨U, 1, none⟩ = some (.int .i64 p) ∧ w.cell? ⟨U, 2, none⟩ = some (.int .u64 s.t) ∧ w.cell? ⟨U, 3, none⟩ = some (.int .u64 s.d) ∧ w.cell? ⟨U, 4, none⟩ = some (.int .u64 s.v) ∧ w.cell? ⟨U, 5, none⟩ = some (.int .i64 s.lead) ∧ w.cell? ⟨U, 6, none⟩ = some (.int .i64 s.size) ∧ ∀ i, w.frozen? ⟨U, i, none⟩ = false := by
  unfold Un at h
  refine ⟨?_, ?_, ?_, ?_, ?_, ?_, ?_, fun i => frozen_of_heap h⟩ <;> (rw [cell_of_heap h]; rfl)
theorem Un.set {w : World} {U : Nat} {v : Value} {p : Nat} {s : An} (h : Un w U v p s) (i : Nat) (u : Value) (p' : Nat) (s' : An) (hi : (unCells v p s.t s.d s.v s.lead s.size).setIfInBounds i u = unCells v p' s'.t s'.d s'.v s'.lead s'.size) : Un (w.setCell ⟨U, i, none⟩ u) U v p' s' := by
  unfold Un at h ⊢
  rw [heap_setCell_same h, ← hi]
  rfl
/-- Bytes do not lie in the unpacker's block. -/
theorem bytes_ne {w : World} {U b o n c k : Nat} {v : Value} {p : Nat} {s : An} {ys : List UInt8} (h : Un w U v p s) (hb : BytesAt w (.slice (some ⟨b, o, none⟩) n c) ys) (hk : k < ys.length) (hv : ∃ a n' c', v = .slice a n' c') : b ≠ U := by
  intro e
  subst e
  obtain ⟨b', o', e, h1⟩ := hb.one k hk
  cases e
  have h2 := h1 w (Below.refl _ _)
  unfold Un at h
  rw [cell_of_heap h] at h2
  obtain ⟨a, n', c', rfl⟩ := hv
  generalize o + k = j at h2
  unfold unCells at h2
  match j, h2 with
  | 0, h2 => simp at h2
  | 1, h2 => simp at h2
  | 2, h2 => simp at h2
  | 3, h2 => simp at h2
  | 4, h2 => simp at h2
  | 5, h2 => simp at h2
  | 6, h2 => simp at h2
  | n + 7, h2 => simp at h2
theorem BytesAt.kept {O : Nat → Prop} {w w' : World} {v : Value} {ys : List UInt8} (h : BytesAt w v ys) (hk : Kept O w w') (hO : ∀ b o n c, v = .slice (some ⟨b, o, none⟩) n c → 0 < ys.length → ¬ O b) : BytesAt w' v ys := by
  obtain ⟨a, c, e, hlc, hn, hc⟩ := h
  refine ⟨a, c, e, hlc, hn, fun k hlt => ?_⟩
  obtain ⟨b, o, ha, hl, h1⟩ := hc k hlt
  have := hk.size
  refine ⟨b, o, ha, by omega, ?_⟩
  rw [World.cell?_of_block (w := w) (w' := w') (a := ⟨b, o + k, none⟩) (hk.block b hl (hO b o _ _ (by rw [e, ha]) (by omega)))]
  exact h1
theorem Rd.kept {w w' : World} {U : Nat} {v : Value} {ys : List UInt8} {p p' : Nat} {s s' : An} (h : Rd w U v ys p s) (hk : Kept (fun k => k = U) w w') (hu : Un w' U v p' s') (hp : p' ≤ 8 * ys.length) : Rd w' U v ys p' s' := by
  refine ⟨hu, h.by_.kept hk (fun b o n c e h0 => ?_), hp, h.len⟩
  have h1 := h.by_
  rw [e] at h1
  exact bytes_ne h.un h1 h0 ⟨_, _, _, e⟩
theorem Kept.un {w w' : World} {U : Nat} (h : Kept (fun k => k = U) w w') (i : Nat) (u : Value) : Kept (fun k => k = U) w (w'.setCell ⟨U, i, none⟩ u) := h.setCell (p := ⟨U, i, none⟩) (fun _ => rfl) u

theorem take_val (x bb fr nn : Nat) (k : Nat) (hx : x < 2 ^ k) (hk : k + nn ≤ 64) (hb : bb < 256) (hn : nn ≤ fr) (hf : fr ≤ 8) :
    bits .or .u64 (IntKind.u64.wrap ((x : Int) * 2 ^ nn)) (bits .and .u64 ((bb : Int) / 2 ^ (fr - nn)) (IntKind.u64.wrap (IntKind.u64.wrap (2 ^ nn) - 1))) = ((x * 2 ^ nn + (bb >>> (fr - nn)) % 2 ^ nn : Nat) : Int) := by
  have hp : 2 ^ nn ≤ 2 ^ 8 := Nat.pow_le_pow_right (by decide) (show nn ≤ 8 by omega)
  have hp0 : 0 < 2 ^ nn := Nat.pow_pos (by decide)
  have h256 : (2 : Nat) ^ 8 = 256 := rfl
  have e1 : IntKind.u64.wrap (IntKind.u64.wrap (2 ^ nn) - 1) = ((2 ^ nn - 1 : Nat) : Int) := by
    have : (2 : Int) ^ nn = ((2 ^ nn : Nat) : Int) := by simp
    rw [this, IntKind.wrap_u64, IntKind.wrap_u64]
    omega
  have e2 : (bb : Int) / 2 ^ (fr - nn) = ((bb >>> (fr - nn) : Nat) : Int) := by
    rw [Nat.shiftRight_eq_div_pow]
    simp
  have hsh : bb >>> (fr - nn) < 256 := by
    rw [Nat.shiftRight_eq_div_pow]
    exact Nat.lt_of_le_of_lt (Nat.div_le_self _ _) hb
  have hxx : x * 2 ^ nn < 18446744073709551616 := by
    have h1 : x * 2 ^ nn < 2 ^ k * 2 ^ nn := Nat.mul_lt_mul_of_pos_right hx hp0
    rw [← Nat.pow_add] at h1
    have h2 : 2 ^ (k + nn) ≤ 2 ^ 64 := Nat.pow_le_pow_right (by decide) hk
    have h3 : (2 : Nat) ^ 64 = 18446744073709551616 := rfl
    omega
  have e3 : IntKind.u64.wrap ((x : Int) * 2 ^ nn) = ((x * 2 ^ nn : Nat) : Int) := by
    have : (2 : Int) ^ nn = ((2 ^ nn : Nat) : Int) := by simp
    rw [this, ← Int.natCast_mul, IntKind.wrap_u64]
    omega
  rw [e1, e2, e3, u64_and_nat _ _ (by omega) (by omega), Nat.and_two_pow_sub_one_eq_mod]
  have hm : (bb >>> (fr - nn)) % 2 ^ nn < 2 ^ nn := Nat.mod_lt _ hp0
  rw [u64_or_nat _ _ hxx (by omega), nat_join nn _ _ (Nat.mul_mod_left _ _) hm]

set_option maxRecDepth 100000 in
set_option maxHeartbeats 2000000 in
theorem take_no (w : World) (U : Nat) (v : Value) (ys : List UInt8) (p : Nat) (s : An) (width : Nat) (h : Rd w U v ys p s) (hw : width ≤ 64) (hno : 8 * ys.length < p + width) :
    Calls Tryd.prog 53 #[.pointer (some ⟨U, 0, none⟩), .int .i64 width] w fun e w' => e = .returned (.tuple #[.int .u64 0, .bool false]) ∧ ∃ k, w' = w.drewN k := by
  obtain ⟨c0, c1, -, -, -, -, -, -⟩ := h.un.cells
  have hle := h.le
  have hlen := h.len
  obtain ⟨a, c, rfl, -, -, -⟩ := id h.by_
  clear h
  generalize ys.length = n at *
  go_enter Tryd.func53, Tryd.ntmps53
  go_wp2
  go_quiet (fail)
  go_wp2
  go_ret2
  exact ⟨rfl, nq, rfl⟩

set_option maxRecDepth 100000 in
set_option maxHeartbeats 4000000 in
theorem take_ok (w : World) (U : Nat) (v : Value) (ys : List UInt8) (p : Nat) (s : An) (width : Nat) (h : Rd w U v ys p s) (hw : width ≤ 64) (hok : p + width ≤ 8 * ys.length) :
    Calls Tryd.prog 53 #[.pointer (some ⟨U, 0, none⟩), .int .i64 width] w fun e w' => e = .returned (.tuple #[.int .u64 (vb (((ub ys).drop p).take width)), .bool true]) ∧ Rd w' U v ys (p + width) s ∧ Kept (fun k => k = U) w w' := by
  obtain ⟨c0, c1, -, -, -, -, -, -⟩ := h.un.cells
  have hle := h.le
  have hlen := h.len
  obtain ⟨a, c, rfl, -, -, -⟩ := id h.by_
  have HR : Hid (Rd w U (.slice a ys.length c) ys p s) := h
  clear h
  have hsub : (8 * (ys.length : Int) - (p : Int)) < width → False := by omega
  go_enter Tryd.func53, Tryd.ntmps53
  go_wp2
  go_quiet (fail)
  go_wp2
  have hkD : Kept (fun k => k = U) w (w.drewN nq) := (Kept.refl _ w).drewN nq
  have HRD : Hid (Rd (w.drewN nq) U (.slice a ys.length c) ys p s) := HR.out.kept hkD HR.out.un hle
  have HKD : Hid (Kept (fun k => k = U) w (w.drewN nq)) := hkD
  clear hkD HR c0 c1
  generalize w.drewN nq = W0 at *
  go_loopw [1, 6] (fun wi vi wr => ∃ (r x : Nat), r ≤ width ∧ wi = .int .i64 r ∧ vi = .int .u64 x ∧ Hid (x = vb (((ub ys).drop p).take (width - r)) ∧ Rd wr U (.slice a ys.length c) ys (p + (width - r)) s ∧ Kept (fun k => k = U) w wr)) (fun wi _ _ => (intOf wi).toNat)
  case atStart => exact ⟨width, 0, Nat.le_refl _, rfl, rfl, by rw [Nat.sub_self]; rfl, by rw [Nat.sub_self]; exact HRD.out, HKD.out⟩
  case round =>
    obtain ⟨r, x, hr, rfl, rfl, hI⟩ := hrel
    clear HRD HKD
    by_cases h0 : r = 0
    · subst h0
      obtain ⟨h1, h2, h3⟩ := hI.out
      rw [Nat.sub_zero] at h1 h2
      have H1 : Hid (x = vb (((ub ys).drop p).take width)) := h1
      have H2 : Hid (Rd wr U (.slice a ys.length c) ys (p + width) s) := h2
      have H3 : Hid (Kept (fun k => k = U) w wr) := h3
      clear hI h1 h2 h3
      go_wp2
      go_ret2
      exact ⟨by rw [← H1.out]; rfl, H2.out, H3.out⟩
    · obtain ⟨hx, hrd, hkp⟩ := hI.out
      obtain ⟨m, hm⟩ : ∃ m, m = p + (width - r) := ⟨_, rfl⟩
      rw [← hm] at hrd
      obtain ⟨c0, c1, -, -, -, -, -, cf⟩ := hrd.un.cells
      have f1 := cf 1
      obtain ⟨q, hq⟩ : ∃ q, q = m / 8 := ⟨_, rfl⟩
      have hql : q < ys.length := by omega
      obtain ⟨b, o, rfl, hone⟩ := hrd.by_.one q hql
      have cb := hone wr (Below.refl _ _)
      obtain ⟨bb, hbb⟩ : ∃ bb, bb = ys[q].toNat := ⟨_, rfl⟩
      have hbl : bb < 256 := by rw [hbb]; exact ys[q].toNat_lt
      rw [← hbb] at cb
      have hbU : b ≠ U := bytes_ne hrd.un hrd.by_ hql ⟨_, _, _, rfl⟩
      obtain ⟨fr, hfr⟩ : ∃ fr, fr = 8 - m % 8 := ⟨_, rfl⟩
      obtain ⟨nn, hnn⟩ : ∃ nn, nn = min fr r := ⟨_, rfl⟩
      have hxl : x < 2 ^ (width - r) := by
        rw [hx]
        have := vb_lt (((ub ys).drop p).take (width - r))
        rw [List.length_take, List.length_drop, ub_length, show min (width - r) (8 * ys.length - p) = width - r by omega] at this
        exact this
      have hval := take_val x bb fr nn (width - r) hxl (by omega) hbl (by omega) (by omega)
      have HX : Hid (x * 2 ^ nn + (bb >>> (fr - nn)) % 2 ^ nn = vb (((ub ys).drop p).take (width - (r - nn)))) := by
        show _ = _
        have e1 : width - (r - nn) = (width - r) + nn := by omega
        have e2 : (((ub ys).drop p).take (width - (r - nn))) = ((ub ys).drop p).take (width - r) ++ ((ub ys).drop m).take nn := by
          rw [e1, List.take_add, List.drop_drop, hm]
        have e3 := take_byte ys m nn (by omega) (by omega)
        subst hq
        rw [e2, vb_append, ← hx, e3, wb_length, vb_wb, hbb, hfr]
      obtain ⟨y, hy⟩ : ∃ y, y = x * 2 ^ nn + (bb >>> (fr - nn)) % 2 ^ nn := ⟨_, rfl⟩
      rw [← hy] at hval
      have HY : Hid (y = vb (((ub ys).drop p).take (width - (r - nn)))) := hy.trans HX.out
      clear hy HX
      have hqi : (m : Int) / 8 = (q : Int) := by omega
      have hqlt : (q : Int) < (ys.length : Int) := by omega
      have HRD : Hid (Rd wr U (.slice (some ⟨b, o, none⟩) ys.length c) ys m s) := hrd
      have HKP : Hid (Kept (fun k => k = U) w wr) := hkp
      have HM : Hid (m = p + (width - r)) := hm
      have E1 : Hid (8 - (m : Int) % 8 = (fr : Int)) := by show _ = _; omega
      have E2 : Hid (min (fr : Int) (r : Int) = (nn : Int)) := by show _ = _; omega
      have E3 : Hid ((r : Int) - (nn : Int) = ((r - nn : Nat) : Int)) := by show _ = _; omega
      have b1 : 1 ≤ fr ∧ fr ≤ 8 ∧ 1 ≤ nn ∧ nn ≤ fr ∧ nn ≤ r := by omega
      have hml : m ≤ 8000000 := by omega
      clear hI hx hrd hkp hm hone hq hbb hfr hnn cf hxl
      go_wp2
      simp only [E1.out, E2.out]
      go_quiet (fail)
      go_wp2
      have hkq : Kept (fun k => k = U) wr ((wr.drewN nq).setCell ⟨U, 1, none⟩ (.int .i64 ((m : Int) + nn))) := ((Kept.refl (fun k => k = U) wr).drewN nq).un 1 _
      have hu : Un ((wr.drewN nq).setCell ⟨U, 1, none⟩ (.int .i64 ((m : Int) + nn))) U (.slice (some ⟨b, o, none⟩) ys.length c) (m + nn) s := Un.set (w := wr.drewN nq) HRD.out.un 1 _ (m + nn) s rfl
      have hmm := HM.out
      have e9 : p + (width - (r - nn)) = m + nn := by omega
      refine ⟨⟨r - nn, y, by omega, by rw [E3.out], rfl, HY.out, ?_, HKP.out.trans hkq (fun _ _ h => h)⟩, ?_⟩
      · rw [e9]
        exact HRD.out.kept hkq hu (by omega)
      · rw [E3.out]
        simp [intOf]
        omega

end Go.Proofs.YtkmclgbiedbfpaaDoor
