/- Texts that belong together. -/
import Derived.Test.YtipakfdebccchaaMWm
import Derived.Test.YtipakfdebccchaaMWd
/- Rename over a name; Stop, SetCapacity, Ops, Fault. -/
namespace Go.Proofs.Ytipakfdebccchaa
open Go.RowKit Go.Maps
open Go.WideMaps Go.WideElems

set_option maxRecDepth 100000 in
set_option maxHeartbeats 1000000 in
theorem rename_over {w : World} {d : Nat} {s : St} (h : IsDisk w d s) (ho : s.ops < 1000000000) (hE : s.err = 0) (old name : ByteArray) (hz1 : old.size ≤ 1000000) (hz2 : name.size ≤ 1000000) (h1 : rn old = true) (h2 : rn name = true) (hn : s.n < 1000000000) (hl : s.pend.length < 1000000000)
    (f g : Nat) (hat : s.N.atKey (.string old.data.toList) .nil = .lit (.int .i64 f)) (hlo : s.N.atKey (.string name.data.toList) .nil = .lit (.int .i64 g)) (he : (old.toList == name.toList) = false)
    (v : Value) (bs : List UInt8) (dur : Int) (hf : FileAt w g v bs dur) (hrow : ∀ k, v.ownBlock = some k → ¬ s.own d k) (hu : 0 ≤ s.used ∧ s.used ≤ 1000000000000) (hb : bs.length ≤ 1000000000000) :
    Calls Try.prog 54 #[.pointer (some ⟨d, 0, none⟩), .string old, .string name] w fun e w' => e = .returned (.int .i64 0) ∧ ∃ pv',
      IsDisk w' d { s.begun with used := s.used - bs.length, N := (s.N.del (.string old.data.toList)).put (.string name.data.toList) (.lit (.int .i64 f)), pend := s.pend ++ [(old, name, some ⟨f, 0, none⟩)], pv := pv', n := s.n + 1 } ∧ (pv'.ownBlock = s.pv.ownBlock ∨ ∃ g, pv'.ownBlock = some g ∧ w.heap.size ≤ g) ∧ Kept (s.own d) w w' := by
  obtain ⟨c, _, hbeg⟩ := begin_is h ho
  have hs1 : old.size ≤ maxLen := by unfold maxLen; omega
  have hs2 : name.size ≤ maxLen := by unfold maxLen; omega
  have HN : Hid (∀ t W, t.size ≤ maxLen → Calls Try.prog 67 #[.string t] W fun e w' => e = .returned (.bool (rn t)) ∧ w' = W) := fun t W ht => rightName_any _ _ ht
  have HA : Hid (s.N.atKey (.string old.data.toList) .nil = .lit (.int .i64 f)) := hat
  have HLK : Hid (∀ w1, IsDisk w1 d s.begun → (Instr.lookup 55 (.map (some s.nb)) (.string name) false).run Try.prog w1 = .ok (.pointer (some ⟨g, 0, none⟩)) w1 ∧ w1.cell? ⟨d, 3, none⟩ = some (.map (some s.nb))) := fun w1 hI => by
    obtain ⟨v, ps, hlook, hv⟩ := dirLook hI.mN hs2
    have e1 : s.begun.N.atKey (.string name.data.toList) .nil = .lit (.int .i64 g) := hlo
    rw [e1] at hv
    obtain rfl := fileElem_inv_ptr hv
    exact ⟨hlook, hI.at_.cells.2.2.2.1⟩
  have HB : Hid (∀ w1, Kept (fun k => k = d ∨ k = s.fb) w w1 → FileAt w1 g v bs dur) := fun w1 k => hf.kept k (fun e => e.elim (hf.ne_disk h.at_) (hf.ne_map h.mF)) (fun i hi e => hrow i hi (begun_own e))
  obtain ⟨va, vc, rfl⟩ := slice_of_row hf.row
  clear hat hlo hf
  rw [hE, torn_of_ok hE] at hbeg
  go_enter Try.func54, Try.ntmps54
  go_upto_region 13 with (first | (go_at_call 59; refine hbeg.mono ?_; rintro e w1 ⟨rfl, hI, hk⟩; obtain ⟨hlk, c3⟩ := HLK.out w1 hI; have hf1 := HB.out _ hk) | (go_at_call 67; refine (HN.out _ _ (by assumption)).mono ?_; rintro e w2 ⟨rfl, rfl⟩) | (go_at_call 41; refine (find_some _ _ _ _ _ _ _ _ _ _ _ _ _ f hs1 h1 hI.at_ hI.mN HA.out).mono ?_; rintro e w2 ⟨rfl, rfl⟩))
  rename_i w1
  obtain ⟨f0, f1, ff0, ff1⟩ := hf1.cells
  obtain ⟨c0, c1, c2, c3', c4, c5, c6, c7, cf⟩ := hI.at_.cells
  refine wp_region_still_tail 12 (by kernel_rfl) (by kernel_rfl) ?_
  simp only [List.take_succ_cons, List.take_zero, List.drop_succ_cons, List.drop_zero]
  iterate 12 still_step
  refine wpStill_nil ?_
  have hw' : IntKind.i64.wrap (s.begun.used - (bs.length : Int)) = s.used - (bs.length : Int) := by
    show IntKind.i64.wrap (s.used - (bs.length : Int)) = _
    rw [IntKind.wrap_i64]; omega
  rw [hw']
  have hI2 := used_set hI (s.used - (bs.length : Int))
  have HK2 : Hid (Kept (s.own d) w _) := ((hk.mono (fun _ _ e => begun_own e)).drew).setCell (p := ⟨d, 1, none⟩) (fun _ => Or.inl rfl) (.int .i64 (s.used - (bs.length : Int)))
  clear hw'
  go_wp2_with (go_at_call 60; refine (apply_any d _ _ _ _ _ _ _ _ s.n s.N s.pend old name (some ⟨f, 0, none⟩) (.lit (.int .i64 f)) _ hI2.at_ hI2.mN hI2.row hn hl hz1 hz2 rfl).mono ?_; rintro e w3 ⟨rfl, pv', hd3, hN3, hP3, hpv, hk3⟩)
  go_ret
  rw [doD_both h1 h2] at hN3
  refine ⟨rfl, pv', applied hI2 hd3 hN3 hP3 hk3, ?_, HK2.out.trans hk3 (fun k _ e => new_own k e)⟩
  rcases hpv with e | ⟨g, e, hg⟩
  · exact Or.inl e
  · exact Or.inr ⟨g, e, Nat.le_trans HK2.out.size hg⟩

section
variable {w : World} {d : Nat} {s : St} (h : IsDisk w d s)
include h
theorem cell_set (i : Nat) (u : Value) (s' : St) (hd : DiskAt (w.setCell ⟨d, i, none⟩ u) d s'.cap s'.used s'.ops s.nb s.db s.pv s.fb s'.stop) (e1 : s'.nb = s.nb) (e2 : s'.db = s.db) (e3 : s'.fb = s.fb) (e4 : s'.pv = s.pv) (e5 : s'.n = s.n) (e6 : s'.N = s.N) (e7 : s'.D = s.D) (e8 : s'.F = s.F) (e9 : s'.pend = s.pend) (o0 : 0 ≤ s'.ops) (s0 : -1 ≤ s'.stop) (s1 : s'.stop ≤ 9223372036854775807) :
    IsDisk (w.setCell ⟨d, i, none⟩ u) d s' ∧ Kept (s.own d) w (w.setCell ⟨d, i, none⟩ u) := by
  have k : Kept (fun k => k = d) w (w.setCell ⟨d, i, none⟩ u) := (Kept.refl (fun k => k = d) w).setCell (p := ⟨d, i, none⟩) (fun _ => rfl) _
  refine ⟨⟨by rw [e1, e2, e3, e4]; exact hd, ?_, ?_, ?_, ?_, by rw [e1, e2]; exact h.nd, by rw [e1, e3]; exact h.nf, by rw [e2, e3]; exact h.df, o0, s0, s1⟩, k.mono (fun _ _ e => Or.inl e)⟩
  · rw [e1, e5, e6]; exact k.ownsMap h.mN (fun e => h.at_.ne_map h.mN e.symm)
  · rw [e2, e5, e7]; exact k.ownsMap h.mD (fun e => h.at_.ne_map h.mD e.symm)
  · rw [e3, e5, e8]; exact k.ownsMap h.mF (fun e => h.at_.ne_map h.mF e.symm)
  · rw [e4, e9]; exact k.ownsRow h.row (fun i hi e => h.at_.ne_row h.row (by decide) (e ▸ hi))
set_option maxHeartbeats 1000000 in
theorem stop_any (n : Int) (hn : n ≤ 9223372036854775807) : Calls Try.prog 20 #[.pointer (some ⟨d, 0, none⟩), .int .i64 n] w fun e w' => e = .returned (.tuple #[]) ∧ IsDisk w' d { s with stop := max n 0 } ∧ Kept (s.own d) w w' := by
  obtain ⟨c0, c1, c2, c3, c4, c5, c6, c7, cf⟩ := h.at_.cells
  have f7 := cf 7
  have HE : Hid (_ ∧ _) := cell_set h 7 (.int .i64 (max n 0)) { s with stop := max n 0 } (h.at_.set7 _) rfl rfl rfl rfl rfl rfl rfl rfl rfl h.o0 (by show -1 ≤ max n 0; omega) (by show max n 0 ≤ _; omega)
  clear cf
  go_enter Try.func20, Try.ntmps20
  go_wp2
  go_end0
  exact ⟨rfl, HE.out.1, HE.out.2⟩
set_option maxHeartbeats 1000000 in
theorem setCap_any (n : Int) : Calls Try.prog 24 #[.pointer (some ⟨d, 0, none⟩), .int .i64 n] w fun e w' => e = .returned (.tuple #[]) ∧ IsDisk w' d { s with cap := max n 0 } ∧ Kept (s.own d) w w' := by
  obtain ⟨c0, c1, c2, c3, c4, c5, c6, c7, cf⟩ := h.at_.cells
  have f0 := cf 0
  have HE : Hid (_ ∧ _) := cell_set h 0 (.int .i64 (max n 0)) { s with cap := max n 0 } (h.at_.set0 _) rfl rfl rfl rfl rfl rfl rfl rfl rfl h.o0 h.s0 h.s1
  clear cf
  go_enter Try.func24, Try.ntmps24
  go_wp2
  go_end0
  exact ⟨rfl, HE.out.1, HE.out.2⟩
set_option maxHeartbeats 1000000 in
theorem ops_any : Calls Try.prog 8 #[.pointer (some ⟨d, 0, none⟩)] w fun e w' => e = .returned (.int .i64 s.ops) ∧ w' = w := by
  obtain ⟨c0, c1, c2, c3, c4, c5, c6, c7, cf⟩ := h.at_.cells
  clear cf
  go_enter Try.func8, Try.ntmps8
  go_wp2
  go_ret
  exact ⟨rfl, rfl⟩
end

end Go.Proofs.Ytipakfdebccchaa

/- Fault; what else Append answers. -/
namespace Go.Proofs.Ytipakfdebccchaa
open Go.RowKit Go.Maps
open Go.WideMaps Go.WideElems

section
variable {w : World} {d : Nat} {s : St} (h : IsDisk w d s) (ho : s.ops < 1000000000) (after kind : Int)
include h ho
set_option maxHeartbeats 1000000 in
theorem fault_far (ha : 9223372036854775807 < s.ops + max after 0) (ha2 : after ≤ 9223372036854775807) : Calls Try.prog 18 #[.pointer (some ⟨d, 0, none⟩), .int .i64 after, .int .i64 kind] w fun e w' => e = .returned (.tuple #[]) ∧ w' = w := by
  obtain ⟨c0, c1, c2, c3, c4, c5, c6, c7, cf⟩ := h.at_.cells
  have h0 := h.o0
  have hw : IntKind.i64.wrap (s.ops + max after 0) = s.ops + max after 0 - 18446744073709551616 := by rw [IntKind.wrap_i64]; omega
  have hw2 : wrap64 (s.ops + max after 0) = s.ops + max after 0 - 18446744073709551616 := by unfold wrap64; omega
  obtain ⟨t, ht⟩ : ∃ t, s.ops + max after 0 - 18446744073709551616 = t := ⟨_, rfl⟩
  have hlt : t < s.ops := by omega
  rw [ht] at hw hw2
  clear cf ht ha
  go_enter Try.func18, Try.ntmps18
  go_wp2
  refine bodyPost_ret (results_none rfl _ _ _) rfl ?_
  exact ⟨rfl, rfl⟩
variable (ha : s.ops + max after 0 ≤ 9223372036854775807)
include ha
theorem fault_look (t : Int) (ht : s.ops + max after 0 = t) : ∃ c : Int, (Instr.lookup 56 (.map (some s.fb)) (.int .i64 t) true).run Try.prog w = .ok (.tuple #[.int .i64 c, .bool (Maps.has s.F (.int .i64 t))]) w := by
  have h0 := h.o0
  have hz0 : plainElem (H := Unit) Try.prog 3 (.int .i64 0) = some (.lit (.int .i64 0), []) := plainElem_int Try.underlying3 (by decide)
  have hkey : keyOf Try.prog 3 (.int .i64 t) = some (.int .i64 t) := keyOf_int_mk Try.underlying3 (WalkArith.wf_i64 (by omega))
  obtain ⟨v, ps, hrun, hv⟩ := World.ownsMap.look_ok (w := w) h.mF law3 Try.underlying56 (Try.zeroValue3 _) hz0 hkey
  obtain ⟨c, rfl, hc, _⟩ := plainElem_int_inv Try.underlying3 hv
  exact ⟨c, hrun⟩
set_option maxHeartbeats 1000000 in
theorem fault_had (hh : Maps.has s.F (.int .i64 (s.ops + max after 0)) = true) : Calls Try.prog 18 #[.pointer (some ⟨d, 0, none⟩), .int .i64 after, .int .i64 kind] w fun e w' => e = .returned (.tuple #[]) ∧ w' = w := by
  obtain ⟨c0, c1, c2, c3, c4, c5, c6, c7, cf⟩ := h.at_.cells
  have h0 := h.o0
  have hw2 : wrap64 (s.ops + max after 0) = s.ops + max after 0 := IntWalk.wrap64_in _ ⟨by omega, by omega⟩
  obtain ⟨t, ht⟩ : ∃ t, s.ops + max after 0 = t := ⟨_, rfl⟩
  obtain ⟨c, hlk⟩ := fault_look h ho after ha t ht
  rw [ht] at hh hw2
  rw [hh] at hlk
  have hlt : ¬ t < s.ops := by omega
  clear cf hh
  go_enter Try.func18, Try.ntmps18
  go_wp2
  go_end0
  exact ⟨rfl, rfl⟩
set_option maxHeartbeats 1000000 in
theorem fault_new (hh : Maps.has s.F (.int .i64 (s.ops + max after 0)) = false) (hk : (Lit.int .i64 kind).wf = true) (hn : s.n < 1000000000) : Calls Try.prog 18 #[.pointer (some ⟨d, 0, none⟩), .int .i64 after, .int .i64 kind] w fun e w' => e = .returned (.tuple #[]) ∧ IsDisk w' d { s with F := s.F.put (.int .i64 (s.ops + max after 0)) (.lit (.int .i64 kind)), n := s.n + 1 } ∧ Kept (s.own d) w w' := by
  obtain ⟨c0, c1, c2, c3, c4, c5, c6, c7, cf⟩ := h.at_.cells
  have h0 := h.o0
  have hw2 : wrap64 (s.ops + max after 0) = s.ops + max after 0 := IntWalk.wrap64_in _ ⟨by omega, by omega⟩
  obtain ⟨t, ht⟩ : ∃ t, s.ops + max after 0 = t := ⟨_, rfl⟩
  obtain ⟨c, hlk⟩ := fault_look h ho after ha t ht
  rw [ht] at hh hw2 ⊢
  rw [hh] at hlk
  have hlt : ¬ t < s.ops := by omega
  have hkey : keyOf Try.prog 3 (.int .i64 t) = some (.int .i64 t) := keyOf_int_mk Try.underlying3 (WalkArith.wf_i64 (by omega))
  have hel : plainElem (H := Unit) Try.prog 3 (.int .i64 kind) = some (.lit (.int .i64 kind), []) := plainElem_int Try.underlying3 hk
  have HF : Hid (w.ownsMap Try.prog 3 (plainElem Try.prog 3) s.fb s.n s.F) := h.mF
  clear cf hh
  go_enter Try.func18, Try.ntmps18
  go_wp2_with (at_mapUpdate; refine wpList_mapUpdate_own _ rfl _ _ _ 56 rfl 3 3 law3 Try.underlying56 (plainElem Try.prog 3) s.fb s.n _ rfl HF.out (by unfold maxLen; omega) _ _ _ rfl rfl hkey _ [] hel ?_; intro w1 hown1 hgrow1)
  go_end0
  have k1 : Kept (fun k => k = s.fb) w w1 := (Kept.refl (fun k => k = s.fb) w).grown hgrow1 (fun k _ e => by cases e; rfl)
  refine ⟨rfl, ⟨h.at_.kept k1 (fun e => h.at_.ne_map h.mF e), (k1.ownsMap h.mN (fun e => h.nf e)).mono (Nat.le_succ _), (k1.ownsMap h.mD (fun e => h.df e)).mono (Nat.le_succ _), hown1, k1.ownsRow h.row (fun i hi e => map_ne_row h.mF h.row (e ▸ hi)), h.nd, h.nf, h.df, h.o0, h.s0, h.s1⟩, k1.mono (fun _ _ e => Or.inr (Or.inr (Or.inr (Or.inl e))))⟩
end

end Go.Proofs.Ytipakfdebccchaa

/- Append: what refuses it; a torn one; with any capacity. -/
namespace Go.Proofs.Ytipakfdebccchaa
open Go.RowKit Go.Maps
open Go.WideMaps Go.WideElems

/-- Is the next Append torn? -/
def St.torn (s : St) : Bool := match s.F.atKey (.int .i64 s.ops) (.lit (.int .i64 0)) with | .lit (.int .i64 c) => bTorn (Maps.has s.F (.int .i64 s.ops)) c s.stop | _ => false
theorem begin_torn {w : World} {d : Nat} {s : St} (h : IsDisk w d s) (ho : s.ops < 1000000000) :
    Calls Try.prog 59 #[.pointer (some ⟨d, 0, none⟩)] w fun e w' => e = .returned (.tuple #[.int .i64 s.err, .bool s.torn]) ∧ IsDisk w' d s.begun ∧ Kept (fun k => k = d ∨ k = s.fb) w w' := by
  obtain ⟨c, hat, hbeg⟩ := begin_is h ho
  have e : s.torn = bTorn (Maps.has s.F (.int .i64 s.ops)) c s.stop := by unfold St.torn; rw [hat]
  rw [e]
  exact hbeg
theorem torn_err {s : St} (h : s.torn = true) : s.err = 6 := by
  unfold St.torn at h
  split at h
  · unfold bTorn at h
    simp only [Bool.and_eq_true, decide_eq_true_eq] at h
    unfold St.err bErr
    rw [if_neg h.1.1, if_pos h.1.2]
  · cases h

section
variable (d f : Nat) (cap used ops : Int) (nb db : Nat) (pv : Value) (fb : Nat) (stop : Int) (n : Nat) (N : DataW Unit) (s : ByteArray) (w : World)
set_option maxRecDepth 100000 in
set_option maxHeartbeats 1000000 in
theorem findRoom_bad (m : Nat) (hs : s.size ≤ maxLen) (hr : rn s = false) :
    Calls Try.prog 61 #[.pointer (some ⟨d, 0, none⟩), .string s, .int .i64 m] w fun e w' => e = .returned (.tuple #[.pointer none, .int .i64 2]) ∧ ∃ k, w' = w.drewN k := by
  go_enter Try.func61, Try.ntmps61
  go_wp2_with (go_at_call 41; refine (find_bad _ _ _ hs hr).mono ?_; rintro e w1 ⟨rfl, rfl⟩)
  go_quiet (fail)
  go_wp2
  go_ret2
  exact ⟨rfl, nq, rfl⟩
set_option maxRecDepth 100000 in
set_option maxHeartbeats 1000000 in
theorem findRoom_none (m : Nat) (hs : s.size ≤ maxLen) (hr : rn s = true) (hd : DiskAt w d cap used ops nb db pv fb stop) (hN : w.ownsMap Try.prog 9 fileElem nb n N) (hat : N.atKey (.string s.data.toList) .nil = .nil) :
    Calls Try.prog 61 #[.pointer (some ⟨d, 0, none⟩), .string s, .int .i64 m] w fun e w' => e = .returned (.tuple #[.pointer none, .int .i64 3]) ∧ ∃ k, w' = w.drewN k := by
  have HA : Hid (N.atKey (.string s.data.toList) .nil = .nil) := hat
  clear hat
  go_enter Try.func61, Try.ntmps61
  go_wp2_with (go_at_call 41; refine (find_none _ _ _ _ _ _ _ _ _ _ _ _ _ hs hr hd hN HA.out).mono ?_; rintro e w1 ⟨rfl, rfl⟩)
  go_quiet (fail)
  go_wp2
  go_ret2
  exact ⟨rfl, nq, rfl⟩
variable (hs : s.size ≤ maxLen) (hr : rn s = true) (hd : DiskAt w d cap used ops nb db pv fb stop) (hN : w.ownsMap Try.prog 9 fileElem nb n N) (hat : N.atKey (.string s.data.toList) .nil = .lit (.int .i64 f))
  (m : Nat) (hm : 0 < m) (hc0 : 0 ≤ cap) (hc1 : cap ≤ 9223372036854775807) (hu0 : 0 ≤ used) (hu1 : used ≤ 1000000000000)
include hs hr hd hN hat hm hc0 hc1 hu0 hu1
set_option maxRecDepth 100000 in
set_option maxHeartbeats 1000000 in
theorem findRoom_wide (hroom : (m : Int) ≤ cap - used) :
    Calls Try.prog 61 #[.pointer (some ⟨d, 0, none⟩), .string s, .int .i64 m] w fun e w' => e = .returned (.tuple #[.pointer (some ⟨f, 0, none⟩), .int .i64 0]) ∧ ∃ k, w' = w.drewN k := by
  obtain ⟨c0, c1, c2, c3, c4, c5, c6, c7, cf⟩ := hd.cells
  have hm' : (0 : Int) < (m : Int) := by omega
  have HA : Hid (N.atKey (.string s.data.toList) .nil = .lit (.int .i64 f)) := hat
  clear hat
  go_enter Try.func61, Try.ntmps61
  go_wp2_with (go_at_call 41; refine (find_some _ _ _ _ _ _ _ _ _ _ _ _ _ f hs hr hd hN HA.out).mono ?_; rintro e w1 ⟨rfl, rfl⟩)
  go_quiet (fail)
  go_wp2
  go_ret2
  exact ⟨rfl, nq, rfl⟩
set_option maxRecDepth 100000 in
set_option maxHeartbeats 1000000 in
theorem findRoom_full (hroom : ¬ (m : Int) ≤ cap - used) :
    Calls Try.prog 61 #[.pointer (some ⟨d, 0, none⟩), .string s, .int .i64 m] w fun e w' => e = .returned (.tuple #[.pointer none, .int .i64 5]) ∧ ∃ k, w' = w.drewN k := by
  obtain ⟨c0, c1, c2, c3, c4, c5, c6, c7, cf⟩ := hd.cells
  have hm' : (0 : Int) < (m : Int) := by omega
  have hgt : cap - used < (m : Int) := by omega
  have HA : Hid (N.atKey (.string s.data.toList) .nil = .lit (.int .i64 f)) := hat
  clear hat
  go_enter Try.func61, Try.ntmps61
  go_wp2_with (go_at_call 41; refine (find_some _ _ _ _ _ _ _ _ _ _ _ _ _ f hs hr hd hN HA.out).mono ?_; rintro e w1 ⟨rfl, rfl⟩)
  go_quiet (fail)
  go_wp2
  go_ret2
  exact ⟨rfl, nq, rfl⟩
end

section
variable {w : World} {d : Nat} {s : St} (h : IsDisk w d s) (ho : s.ops < 1000000000) (name : ByteArray) (a : Option Addr) (m c : Nat)
include h ho
set_option maxHeartbeats 1000000 in
theorem append_refused (hE : s.err ≠ 0) (hT : s.torn = false) :
    Calls Try.prog 34 #[.pointer (some ⟨d, 0, none⟩), .string name, .slice a m c] w fun e w' => e = .returned (.int .i64 s.err) ∧ IsDisk w' d s.begun ∧ Kept (s.own d) w w' := by
  have hbeg := begin_torn h ho
  have HK : Hid (∀ w', Kept (fun k => k = d ∨ k = s.fb) w w' → Kept (s.own d) w w') := fun w' k => k.mono (fun _ _ h => begun_own h)
  have hE' : (s.err == 0) = false := by simpa using hE
  rw [hT] at hbeg
  generalize s.err = er at *
  clear hE
  go_enter Try.func34, Try.ntmps34
  go_wp2_with (go_at_call 59; refine hbeg.mono ?_; rintro e w1 ⟨rfl, hI, hk⟩)
  all_goals first | (go_ret; exact ⟨rfl, hI, HK.out _ hk⟩) | (exfalso; simp at *; omega)
variable (R : Int) (hR : R ≠ 0) (HFR : Hid (∀ W, IsDisk W d s.begun → Calls Try.prog 61 #[.pointer (some ⟨d, 0, none⟩), .string name, .int .i64 m] W fun e w' => e = .returned (.tuple #[.pointer none, .int .i64 R]) ∧ ∃ k, w' = W.drewN k))
include hR HFR
set_option maxHeartbeats 1000000 in
/-- Refused by the name, by want of a file or of room. -/
theorem append_fails (hE : s.err = 0) :
    Calls Try.prog 34 #[.pointer (some ⟨d, 0, none⟩), .string name, .slice a m c] w fun e w' => e = .returned (.int .i64 R) ∧ IsDisk w' d s.begun ∧ Kept (s.own d) w w' := by
  have hbeg := begin_torn h ho
  have HK : Hid (∀ w' k, Kept (fun k => k = d ∨ k = s.fb) w w' → Kept (s.own d) w (w'.drewN k)) := fun w' q k => (k.mono (fun _ _ h => begun_own h)).drewN q
  have HD : Hid (∀ w' k, IsDisk w' d s.begun → IsDisk (w'.drewN k) d s.begun) := fun w' q hI => hI.kept ((Kept.refl (fun _ => False) w').drewN q) (fun _ _ e => e)
  have hT : s.torn = false := by
    cases e : s.torn
    · rfl
    · have := torn_err e; omega
  rw [hE, hT] at hbeg
  have hR' : (R == 0) = false := by simpa using hR
  clear hR
  go_enter Try.func34, Try.ntmps34
  go_wp2_with (first | (go_at_call 59; refine hbeg.mono ?_; rintro e w1 ⟨rfl, hI, hk⟩) | (go_at_call 61; refine (HFR.out _ hI).mono ?_; rintro e w2 ⟨rfl, k, rfl⟩))
  all_goals first | (go_ret; exact ⟨rfl, HD.out _ k hI, HK.out _ k hk⟩) | (exfalso; simp at *; omega)
set_option maxHeartbeats 1000000 in
theorem append_torn_fails (hT : s.torn = true) :
    Calls Try.prog 34 #[.pointer (some ⟨d, 0, none⟩), .string name, .slice a m c] w fun e w' => e = .returned (.int .i64 6) ∧ IsDisk w' d s.begun ∧ Kept (s.own d) w w' := by
  have hbeg := begin_torn h ho
  have HK : Hid (∀ w' k, Kept (fun k => k = d ∨ k = s.fb) w w' → Kept (s.own d) w (w'.drewN k)) := fun w' q k => (k.mono (fun _ _ h => begun_own h)).drewN q
  have HD : Hid (∀ w' k, IsDisk w' d s.begun → IsDisk (w'.drewN k) d s.begun) := fun w' q hI => hI.kept ((Kept.refl (fun _ => False) w').drewN q) (fun _ _ e => e)
  rw [torn_err hT, hT] at hbeg
  have hR' : (R == 0) = false := by simpa using hR
  clear hR
  go_enter Try.func34, Try.ntmps34
  go_wp2_with (first | (go_at_call 59; refine hbeg.mono ?_; rintro e w1 ⟨rfl, hI, hk⟩) | (go_at_call 61; refine (HFR.out _ hI).mono ?_; rintro e w2 ⟨rfl, k, rfl⟩))
  all_goals first | (go_ret; exact ⟨rfl, HD.out _ k hI, HK.out _ k hk⟩) | (exfalso; simp at *; omega)
end

end Go.Proofs.Ytipakfdebccchaa
