/- Texts that belong together. -/
import Derived.Test.YtipakfdebccchaaMW8
import Derived.StillTailTactics
/- What refuses Append, Sync, SyncDir, Rename and Remove; Remove, Rename done; Stop, SetCapacity, Ops. -/
namespace Go.Proofs.Ytipakfdebccchaa
open Go.RowKit Go.Maps
open Go.WideMaps Go.WideElems

section
variable {w : World} {d : Nat} {s : St} (h : IsDisk w d s) (ho : s.ops < 1000000000)
include h ho

set_option maxHeartbeats 1000000 in
theorem sync_refused (name : ByteArray) (hE : s.err ≠ 0) :
    Calls Try.prog 35 #[.pointer (some ⟨d, 0, none⟩), .string name] w fun e w' => e = .returned (.int .i64 s.err) ∧ IsDisk w' d s.begun ∧ Kept (s.own d) w w' := by
  obtain ⟨c, _, hbeg⟩ := begin_is h ho
  have HK : Hid (∀ w', Kept (fun k => k = d ∨ k = s.fb) w w' → Kept (s.own d) w w') := fun w' k => k.mono (fun _ _ h => begun_own h)
  have hE' : (s.err == 0) = false := by simpa using hE
  generalize s.err = er at *
  generalize bTorn (Maps.has s.F (.int .i64 s.ops)) c s.stop = torn at *
  clear hE
  go_enter Try.func35, Try.ntmps35
  go_wp2_with (go_at_call 59; refine hbeg.mono ?_; rintro e w1 ⟨rfl, hI, hk⟩)
  all_goals first | (go_ret; exact ⟨rfl, hI, HK.out _ hk⟩) | (exfalso; simp at *; omega)
set_option maxHeartbeats 1000000 in
theorem syncDir_refused (hE : s.err ≠ 0) :
    Calls Try.prog 36 #[.pointer (some ⟨d, 0, none⟩)] w fun e w' => e = .returned (.int .i64 s.err) ∧ IsDisk w' d s.begun ∧ Kept (s.own d) w w' := by
  obtain ⟨c, _, hbeg⟩ := begin_is h ho
  have HK : Hid (∀ w', Kept (fun k => k = d ∨ k = s.fb) w w' → Kept (s.own d) w w') := fun w' k => k.mono (fun _ _ h => begun_own h)
  have hE' : (s.err == 0) = false := by simpa using hE
  generalize s.err = er at *
  generalize bTorn (Maps.has s.F (.int .i64 s.ops)) c s.stop = torn at *
  clear hE
  go_enter Try.func36, Try.ntmps36
  go_wp2_with (go_at_call 59; refine hbeg.mono ?_; rintro e w1 ⟨rfl, hI, hk⟩)
  all_goals first | (go_ret; exact ⟨rfl, hI, HK.out _ hk⟩) | (exfalso; simp at *; omega)
set_option maxHeartbeats 1000000 in
theorem remove_refused (name : ByteArray) (hE : s.err ≠ 0) :
    Calls Try.prog 56 #[.pointer (some ⟨d, 0, none⟩), .string name] w fun e w' => e = .returned (.int .i64 s.err) ∧ IsDisk w' d s.begun ∧ Kept (s.own d) w w' := by
  obtain ⟨c, _, hbeg⟩ := begin_is h ho
  have HK : Hid (∀ w', Kept (fun k => k = d ∨ k = s.fb) w w' → Kept (s.own d) w w') := fun w' k => k.mono (fun _ _ h => begun_own h)
  have hE' : (s.err == 0) = false := by simpa using hE
  generalize s.err = er at *
  generalize bTorn (Maps.has s.F (.int .i64 s.ops)) c s.stop = torn at *
  clear hE
  go_enter Try.func56, Try.ntmps56
  go_wp2_with (go_at_call 59; refine hbeg.mono ?_; rintro e w1 ⟨rfl, hI, hk⟩)
  all_goals first | (go_ret; exact ⟨rfl, hI, HK.out _ hk⟩) | (exfalso; simp at *; omega)
set_option maxHeartbeats 1000000 in
theorem rename_refused (old name : ByteArray) (hE : s.err ≠ 0) :
    Calls Try.prog 54 #[.pointer (some ⟨d, 0, none⟩), .string old, .string name] w fun e w' => e = .returned (.int .i64 s.err) ∧ IsDisk w' d s.begun ∧ Kept (s.own d) w w' := by
  obtain ⟨c, _, hbeg⟩ := begin_is h ho
  have HK : Hid (∀ w', Kept (fun k => k = d ∨ k = s.fb) w w' → Kept (s.own d) w w') := fun w' k => k.mono (fun _ _ h => begun_own h)
  have hE' : (s.err == 0) = false := by simpa using hE
  generalize s.err = er at *
  generalize bTorn (Maps.has s.F (.int .i64 s.ops)) c s.stop = torn at *
  clear hE
  go_enter Try.func54, Try.ntmps54
  go_wp2_with (go_at_call 59; refine hbeg.mono ?_; rintro e w1 ⟨rfl, hI, hk⟩)
  all_goals first | (go_ret; exact ⟨rfl, hI, HK.out _ hk⟩) | (exfalso; simp at *; omega)

variable (hE : s.err = 0)
include hE
set_option maxHeartbeats 1000000 in
theorem sync_bad (name : ByteArray) (hs : name.size ≤ maxLen) (hr : rn name = false) :
    Calls Try.prog 35 #[.pointer (some ⟨d, 0, none⟩), .string name] w fun e w' => e = .returned (.int .i64 2) ∧ IsDisk w' d s.begun ∧ Kept (s.own d) w w' := by
  obtain ⟨c, _, hbeg⟩ := begin_is h ho
  have HK : Hid (∀ w', Kept (fun k => k = d ∨ k = s.fb) w w' → Kept (s.own d) w w') := fun w' k => k.mono (fun _ _ h => begun_own h)
  rw [hE] at hbeg
  generalize bTorn (Maps.has s.F (.int .i64 s.ops)) c s.stop = torn at *
  go_enter Try.func35, Try.ntmps35
  go_wp2_with (first | (go_at_call 59; refine hbeg.mono ?_; rintro e w1 ⟨rfl, hI, hk⟩) | (go_at_call 41; refine (find_bad _ _ _ hs hr).mono ?_; rintro e w2 ⟨rfl, rfl⟩))
  go_ret
  exact ⟨rfl, hI, HK.out _ hk⟩
set_option maxHeartbeats 1000000 in
theorem sync_none (name : ByteArray) (hs : name.size ≤ maxLen) (hr : rn name = true) (hat : s.N.atKey (.string name.data.toList) .nil = .nil) :
    Calls Try.prog 35 #[.pointer (some ⟨d, 0, none⟩), .string name] w fun e w' => e = .returned (.int .i64 3) ∧ IsDisk w' d s.begun ∧ Kept (s.own d) w w' := by
  obtain ⟨c, _, hbeg⟩ := begin_is h ho
  have HK : Hid (∀ w', Kept (fun k => k = d ∨ k = s.fb) w w' → Kept (s.own d) w w') := fun w' k => k.mono (fun _ _ h => begun_own h)
  have HA : Hid (s.N.atKey (.string name.data.toList) .nil = .nil) := hat
  clear hat
  rw [hE] at hbeg
  generalize bTorn (Maps.has s.F (.int .i64 s.ops)) c s.stop = torn at *
  go_enter Try.func35, Try.ntmps35
  go_wp2_with (first | (go_at_call 59; refine hbeg.mono ?_; rintro e w1 ⟨rfl, hI, hk⟩) | (go_at_call 41; refine (find_none _ _ _ _ _ _ _ _ _ _ _ _ _ hs hr hI.at_ hI.mN HA.out).mono ?_; rintro e w2 ⟨rfl, rfl⟩))
  go_ret
  exact ⟨rfl, hI, HK.out _ hk⟩
set_option maxHeartbeats 1000000 in
theorem remove_bad (name : ByteArray) (hs : name.size ≤ maxLen) (hr : rn name = false) :
    Calls Try.prog 56 #[.pointer (some ⟨d, 0, none⟩), .string name] w fun e w' => e = .returned (.int .i64 2) ∧ IsDisk w' d s.begun ∧ Kept (s.own d) w w' := by
  obtain ⟨c, _, hbeg⟩ := begin_is h ho
  have HK : Hid (∀ w', Kept (fun k => k = d ∨ k = s.fb) w w' → Kept (s.own d) w w') := fun w' k => k.mono (fun _ _ h => begun_own h)
  rw [hE] at hbeg
  generalize bTorn (Maps.has s.F (.int .i64 s.ops)) c s.stop = torn at *
  go_enter Try.func56, Try.ntmps56
  go_wp2_with (first | (go_at_call 59; refine hbeg.mono ?_; rintro e w1 ⟨rfl, hI, hk⟩) | (go_at_call 41; refine (find_bad _ _ _ hs hr).mono ?_; rintro e w2 ⟨rfl, rfl⟩))
  go_ret
  exact ⟨rfl, hI, HK.out _ hk⟩
set_option maxHeartbeats 1000000 in
theorem remove_none (name : ByteArray) (hs : name.size ≤ maxLen) (hr : rn name = true) (hat : s.N.atKey (.string name.data.toList) .nil = .nil) :
    Calls Try.prog 56 #[.pointer (some ⟨d, 0, none⟩), .string name] w fun e w' => e = .returned (.int .i64 3) ∧ IsDisk w' d s.begun ∧ Kept (s.own d) w w' := by
  obtain ⟨c, _, hbeg⟩ := begin_is h ho
  have HK : Hid (∀ w', Kept (fun k => k = d ∨ k = s.fb) w w' → Kept (s.own d) w w') := fun w' k => k.mono (fun _ _ h => begun_own h)
  have HA : Hid (s.N.atKey (.string name.data.toList) .nil = .nil) := hat
  clear hat
  rw [hE] at hbeg
  generalize bTorn (Maps.has s.F (.int .i64 s.ops)) c s.stop = torn at *
  go_enter Try.func56, Try.ntmps56
  go_wp2_with (first | (go_at_call 59; refine hbeg.mono ?_; rintro e w1 ⟨rfl, hI, hk⟩) | (go_at_call 41; refine (find_none _ _ _ _ _ _ _ _ _ _ _ _ _ hs hr hI.at_ hI.mN HA.out).mono ?_; rintro e w2 ⟨rfl, rfl⟩))
  go_ret
  exact ⟨rfl, hI, HK.out _ hk⟩
end

theorem new_own {s : St} {d : Nat} (k : Nat) (hk' : k = d ∨ k = s.nb ∨ s.pv.ownBlock = some k) : s.own d k := by
  rcases hk' with h | h | h
  · exact Or.inl h
  · exact Or.inr (Or.inl h)
  · exact Or.inr (Or.inr (Or.inr (Or.inr h)))

/-- What apply leaves is a disk. -/
theorem applied {w1 w3 : World} {d : Nat} {s : St} (hI : IsDisk w1 d s) {used : Int} {pv' : Value} {N' : DataW Unit} {c : ByteArray × ByteArray × Option Addr} (hd3 : DiskAt w3 d s.cap used s.ops s.nb s.db pv' s.fb s.stop)
    (hN3 : w3.ownsMap Try.prog 9 fileElem s.nb (s.n + 1) N') (hP3 : w3.ownsRow 0 101 3 pv' (s.pend.length + 1) (chRow (s.pend ++ [c]))) (hk3 : Kept (fun k => k = d ∨ k = s.nb ∨ s.pv.ownBlock = some k) w1 w3) :
    IsDisk w3 d { s with used := used, N := N', pend := s.pend ++ [c], pv := pv', n := s.n + 1 } := by
  refine ⟨hd3, hN3, ?_, ?_, ?_, hI.nd, hI.nf, hI.df, hI.o0, hI.s0, hI.s1⟩
  · exact (hk3.ownsMap hI.mD (fun e => by
      rcases e with e | e | e
      · exact hI.at_.ne_map hI.mD e.symm
      · exact hI.nd e.symm
      · exact map_ne_row hI.mD hI.row e)).mono (Nat.le_succ _)
  · exact (hk3.ownsMap hI.mF (fun e => by
      rcases e with e | e | e
      · exact hI.at_.ne_map hI.mF e.symm
      · exact hI.nf e.symm
      · exact map_ne_row hI.mF hI.row e)).mono (Nat.le_succ _)
  · show w3.ownsRow 0 101 3 pv' (s.pend ++ [c]).length _
    rw [List.length_append]
    exact hP3

end Go.Proofs.Ytipakfdebccchaa

/- Remove and Rename, done; what else refuses Rename; Stop, SetCapacity, Ops. -/
namespace Go.Proofs.Ytipakfdebccchaa
open Go.RowKit Go.Maps
open Go.WideMaps Go.WideElems

theorem doD_old {D : DataW Unit} {name : ByteArray} (h : rn name = true) : doD D name ByteArray.empty .nil = D.del (.string name.data.toList) := by
  simp [doD, rn_ne h]
theorem doD_both {D : DataW Unit} {old name : ByteArray} {f : DataW Unit} (h : rn old = true) (h' : rn name = true) : doD D old name f = (D.del (.string old.data.toList)).put (.string name.data.toList) f := by
  simp [doD, rn_ne h, rn_ne h']
theorem used_set {w1 : World} {d : Nat} {s : St} (hI : IsDisk w1 d s) (u : Int) : IsDisk ((w1.drew).setCell ⟨d, 1, none⟩ (.int .i64 u)) d { s with used := u } := by
  have k : Kept (fun k => k = d) w1 ((w1.drew).setCell ⟨d, 1, none⟩ (.int .i64 u)) := ((Kept.refl (fun k => k = d) w1).drew).setCell (p := ⟨d, 1, none⟩) (fun _ => rfl) _
  refine ⟨DiskAt.set1 (w := w1.drew) hI.at_ u, k.ownsMap hI.mN (fun e => hI.at_.ne_map hI.mN e.symm), k.ownsMap hI.mD (fun e => hI.at_.ne_map hI.mD e.symm), k.ownsMap hI.mF (fun e => hI.at_.ne_map hI.mF e.symm), k.ownsRow hI.row (fun i hi e => hI.at_.ne_row hI.row (by decide) (e ▸ hi)), hI.nd, hI.nf, hI.df, hI.o0, hI.s0, hI.s1⟩

set_option maxRecDepth 100000 in
set_option maxHeartbeats 1000000 in
theorem remove_ok {w : World} {d : Nat} {s : St} (h : IsDisk w d s) (ho : s.ops < 1000000000) (hE : s.err = 0) (name : ByteArray) (hr : rn name = true) (hs : name.size ≤ 1000000) (f : Nat) (hat : s.N.atKey (.string name.data.toList) .nil = .lit (.int .i64 f))
    (v : Value) (bs : List UInt8) (dur : Int) (hf : FileAt w f v bs dur) (hrow : ∀ k, v.ownBlock = some k → ¬ s.own d k) (hn : s.n < 1000000000) (hl : s.pend.length < 1000000000) (hu : 0 ≤ s.used ∧ s.used ≤ 1000000000000) (hb : bs.length ≤ 1000000000000) :
    Calls Try.prog 56 #[.pointer (some ⟨d, 0, none⟩), .string name] w fun e w' => e = .returned (.int .i64 0) ∧ ∃ pv',
      IsDisk w' d { s.begun with used := s.used - bs.length, N := s.N.del (.string name.data.toList), pend := s.pend ++ [(name, ByteArray.empty, none)], pv := pv', n := s.n + 1 } ∧ (pv'.ownBlock = s.pv.ownBlock ∨ ∃ g, pv'.ownBlock = some g ∧ w.heap.size ≤ g) ∧ Kept (s.own d) w w' := by
  obtain ⟨cc, _, hbeg⟩ := begin_is h ho
  rw [hE, torn_of_ok hE] at hbeg
  have hs' : name.size ≤ maxLen := by unfold maxLen; omega
  have HA : Hid (s.N.atKey (.string name.data.toList) .nil = .lit (.int .i64 f)) := hat
  clear hat
  have HB : Hid (∀ w1, Kept (fun k => k = d ∨ k = s.fb) w w1 → FileAt w1 f v bs dur) := fun w1 k => hf.kept k (fun e => e.elim (hf.ne_disk h.at_) (hf.ne_map h.mF)) (fun i hi e => hrow i hi (begun_own e))
  obtain ⟨va, vc, rfl⟩ := slice_of_row hf.row
  have hw : IntKind.i64.wrap (s.used - (bs.length : Int)) = s.used - (bs.length : Int) := by rw [IntKind.wrap_i64]; omega
  clear hf
  go_enter Try.func56, Try.ntmps56
  go_upto_region 7 with (first | (go_at_call 59; refine hbeg.mono ?_; rintro e w1 ⟨rfl, hI, hk⟩; have hf1 := HB.out _ hk) | (go_at_call 41; refine (find_some _ _ _ _ _ _ _ _ _ _ _ _ _ f hs' hr hI.at_ hI.mN HA.out).mono ?_; rintro e w1 ⟨rfl, rfl⟩))
  obtain ⟨f0, f1, ff0, ff1⟩ := hf1.cells
  obtain ⟨c0, c1, c2, c3, c4, c5, c6, c7, cf⟩ := hI.at_.cells
  have c1' : w1.cell? ⟨d, 1, none⟩ = some (.int .i64 s.used) := c1
  refine wp_region_still_tail 12 (by kernel_rfl) (by kernel_rfl) ?_
  simp only [List.take_succ_cons, List.take_zero, List.drop_succ_cons, List.drop_zero]
  iterate 12 still_step
  refine wpStill_nil ?_
  have hw' : IntKind.i64.wrap (s.begun.used - (bs.length : Int)) = s.used - (bs.length : Int) := hw
  rw [hw']
  have hI2 := used_set hI (s.used - (bs.length : Int))
  have hk2 : Kept (s.own d) w ((w1.drew).setCell ⟨d, 1, none⟩ (.int .i64 (s.used - (bs.length : Int)))) := ((hk.mono (fun _ _ e => begun_own e)).drew).setCell (p := ⟨d, 1, none⟩) (fun _ => Or.inl rfl) _
  have HK2 : Hid (Kept (s.own d) w ((w1.drew).setCell ⟨d, 1, none⟩ (.int .i64 (s.used - (bs.length : Int))))) := hk2
  clear hw hw' hk2
  go_wp2_with (go_at_call 60; refine (apply_any d _ _ _ _ _ _ _ _ s.n s.N s.pend name ByteArray.empty none .nil _ hI2.at_ hI2.mN hI2.row hn hl hs (by decide) rfl).mono ?_; rintro e w3 ⟨rfl, pv', hd3, hN3, hP3, hpv, hk3⟩)
  go_ret
  rw [doD_old hr] at hN3
  refine ⟨rfl, pv', applied hI2 hd3 hN3 hP3 hk3, ?_, HK2.out.trans hk3 (fun k _ e => new_own k e)⟩
  rcases hpv with e | ⟨g, e, hg⟩
  · exact Or.inl e
  · exact Or.inr ⟨g, e, Nat.le_trans HK2.out.size hg⟩

section
variable {w : World} {d : Nat} {s : St} (h : IsDisk w d s) (ho : s.ops < 1000000000) (hE : s.err = 0) (old name : ByteArray) (hs1 : old.size ≤ maxLen) (hs2 : name.size ≤ maxLen)
include h ho hE hs1 hs2
set_option maxHeartbeats 1000000 in
theorem rename_bad (hr : (rn old && rn name) = false) :
    Calls Try.prog 54 #[.pointer (some ⟨d, 0, none⟩), .string old, .string name] w fun e w' => e = .returned (.int .i64 2) ∧ IsDisk w' d s.begun ∧ Kept (s.own d) w w' := by
  obtain ⟨c, _, hbeg⟩ := begin_is h ho
  have HK : Hid (∀ w', Kept (fun k => k = d ∨ k = s.fb) w w' → Kept (s.own d) w w') := fun w' k => k.mono (fun _ _ h => begun_own h)
  have HN : Hid (∀ t W, t.size ≤ maxLen → Calls Try.prog 67 #[.string t] W fun e w' => e = .returned (.bool (rn t)) ∧ w' = W) := fun t W ht => rightName_any _ _ ht
  rw [hE] at hbeg
  generalize bTorn (Maps.has s.F (.int .i64 s.ops)) c s.stop = torn at *
  cases h1 : rn old
  · go_enter Try.func54, Try.ntmps54
    go_wp2_with (first | (go_at_call 59; refine hbeg.mono ?_; rintro e w1 ⟨rfl, hI, hk⟩) | (go_at_call 67; refine (HN.out _ _ (by assumption)).mono ?_; rintro e w2 ⟨rfl, rfl⟩))
    go_ret
    exact ⟨rfl, hI, HK.out _ hk⟩
  · have h2 : rn name = false := by simpa [h1] using hr
    go_enter Try.func54, Try.ntmps54
    go_wp2_with (first | (go_at_call 59; refine hbeg.mono ?_; rintro e w1 ⟨rfl, hI, hk⟩) | (go_at_call 67; refine (HN.out _ _ (by assumption)).mono ?_; rintro e w2 ⟨rfl, rfl⟩))
    go_ret
    exact ⟨rfl, hI, HK.out _ hk⟩
variable (h1 : rn old = true) (h2 : rn name = true)
include h1 h2
set_option maxHeartbeats 1000000 in
theorem rename_none (hat : s.N.atKey (.string old.data.toList) .nil = .nil) :
    Calls Try.prog 54 #[.pointer (some ⟨d, 0, none⟩), .string old, .string name] w fun e w' => e = .returned (.int .i64 3) ∧ IsDisk w' d s.begun ∧ Kept (s.own d) w w' := by
  obtain ⟨c, _, hbeg⟩ := begin_is h ho
  have HK : Hid (∀ w', Kept (fun k => k = d ∨ k = s.fb) w w' → Kept (s.own d) w w') := fun w' k => k.mono (fun _ _ h => begun_own h)
  have HN : Hid (∀ t W, t.size ≤ maxLen → Calls Try.prog 67 #[.string t] W fun e w' => e = .returned (.bool (rn t)) ∧ w' = W) := fun t W ht => rightName_any _ _ ht
  have HA : Hid (s.N.atKey (.string old.data.toList) .nil = .nil) := hat
  clear hat
  rw [hE] at hbeg
  generalize bTorn (Maps.has s.F (.int .i64 s.ops)) c s.stop = torn at *
  go_enter Try.func54, Try.ntmps54
  go_wp2_with (first | (go_at_call 59; refine hbeg.mono ?_; rintro e w1 ⟨rfl, hI, hk⟩) | (go_at_call 67; refine (HN.out _ _ (by assumption)).mono ?_; rintro e w2 ⟨rfl, rfl⟩) | (go_at_call 41; refine (find_none _ _ _ _ _ _ _ _ _ _ _ _ _ hs1 h1 hI.at_ hI.mN HA.out).mono ?_; rintro e w2 ⟨rfl, rfl⟩))
  go_ret
  exact ⟨rfl, hI, HK.out _ hk⟩
set_option maxHeartbeats 1000000 in
theorem rename_same (f : Nat) (hat : s.N.atKey (.string old.data.toList) .nil = .lit (.int .i64 f)) (he : (old.toList == name.toList) = true) :
    Calls Try.prog 54 #[.pointer (some ⟨d, 0, none⟩), .string old, .string name] w fun e w' => e = .returned (.int .i64 0) ∧ IsDisk w' d s.begun ∧ Kept (s.own d) w w' := by
  obtain ⟨c, _, hbeg⟩ := begin_is h ho
  have HK : Hid (∀ w', Kept (fun k => k = d ∨ k = s.fb) w w' → Kept (s.own d) w w') := fun w' k => k.mono (fun _ _ h => begun_own h)
  have HN : Hid (∀ t W, t.size ≤ maxLen → Calls Try.prog 67 #[.string t] W fun e w' => e = .returned (.bool (rn t)) ∧ w' = W) := fun t W ht => rightName_any _ _ ht
  have HA : Hid (s.N.atKey (.string old.data.toList) .nil = .lit (.int .i64 f)) := hat
  clear hat
  rw [hE] at hbeg
  generalize bTorn (Maps.has s.F (.int .i64 s.ops)) c s.stop = torn at *
  go_enter Try.func54, Try.ntmps54
  go_wp2_with (first | (go_at_call 59; refine hbeg.mono ?_; rintro e w1 ⟨rfl, hI, hk⟩) | (go_at_call 67; refine (HN.out _ _ (by assumption)).mono ?_; rintro e w2 ⟨rfl, rfl⟩) | (go_at_call 41; refine (find_some _ _ _ _ _ _ _ _ _ _ _ _ _ f hs1 h1 hI.at_ hI.mN HA.out).mono ?_; rintro e w2 ⟨rfl, rfl⟩))
  go_ret
  exact ⟨rfl, hI, HK.out _ hk⟩
set_option maxRecDepth 100000 in
set_option maxHeartbeats 1000000 in
theorem rename_new (hz1 : old.size ≤ 1000000) (hz2 : name.size ≤ 1000000) (hn : s.n < 1000000000) (hl : s.pend.length < 1000000000) (f : Nat) (hat : s.N.atKey (.string old.data.toList) .nil = .lit (.int .i64 f)) (hlo : s.N.atKey (.string name.data.toList) .nil = .nil) (he : (old.toList == name.toList) = false) :
    Calls Try.prog 54 #[.pointer (some ⟨d, 0, none⟩), .string old, .string name] w fun e w' => e = .returned (.int .i64 0) ∧ ∃ pv',
      IsDisk w' d { s.begun with N := (s.N.del (.string old.data.toList)).put (.string name.data.toList) (.lit (.int .i64 f)), pend := s.pend ++ [(old, name, some ⟨f, 0, none⟩)], pv := pv', n := s.n + 1 } ∧ (pv'.ownBlock = s.pv.ownBlock ∨ ∃ g, pv'.ownBlock = some g ∧ w.heap.size ≤ g) ∧ Kept (s.own d) w w' := by
  obtain ⟨c, _, hbeg⟩ := begin_is h ho
  have HK : Hid (∀ w', Kept (fun k => k = d ∨ k = s.fb) w w' → Kept (s.own d) w w') := fun w' k => k.mono (fun _ _ h => begun_own h)
  have HN : Hid (∀ t W, t.size ≤ maxLen → Calls Try.prog 67 #[.string t] W fun e w' => e = .returned (.bool (rn t)) ∧ w' = W) := fun t W ht => rightName_any _ _ ht
  have HA : Hid (s.N.atKey (.string old.data.toList) .nil = .lit (.int .i64 f)) := hat
  have HLK : Hid (∀ w1, IsDisk w1 d s.begun → (Instr.lookup 55 (.map (some s.nb)) (.string name) false).run Try.prog w1 = .ok (.pointer none) w1 ∧ w1.cell? ⟨d, 3, none⟩ = some (.map (some s.nb))) := fun w1 hI => by
    obtain ⟨v, ps, hlook, hv⟩ := dirLook hI.mN hs2
    have e1 : s.begun.N.atKey (.string name.data.toList) .nil = .nil := hlo
    rw [e1] at hv
    obtain rfl := fileElem_inv_nil hv
    exact ⟨hlook, hI.at_.cells.2.2.2.1⟩
  clear hat hlo
  rw [hE] at hbeg
  generalize bTorn (Maps.has s.F (.int .i64 s.ops)) c s.stop = torn at *
  go_enter Try.func54, Try.ntmps54
  go_wp2_with (first | (go_at_call 59; refine hbeg.mono ?_; rintro e w1 ⟨rfl, hI, hk⟩; obtain ⟨hlk, c3⟩ := HLK.out w1 hI) | (go_at_call 67; refine (HN.out _ _ (by assumption)).mono ?_; rintro e w2 ⟨rfl, rfl⟩) | (go_at_call 41; refine (find_some _ _ _ _ _ _ _ _ _ _ _ _ _ f hs1 h1 hI.at_ hI.mN HA.out).mono ?_; rintro e w2 ⟨rfl, rfl⟩) | (go_at_call 60; refine (apply_any d _ _ _ _ _ _ _ _ s.n s.N s.pend old name (some ⟨f, 0, none⟩) (.lit (.int .i64 f)) _ hI.at_ hI.mN hI.row hn hl hz1 hz2 rfl).mono ?_; rintro e w3 ⟨rfl, pv', hd3, hN3, hP3, hpv, hk3⟩))
  go_ret
  rw [doD_both h1 h2] at hN3
  refine ⟨rfl, pv', applied hI hd3 hN3 hP3 hk3, ?_, (HK.out _ hk).trans hk3 (fun k _ e => new_own k e)⟩
  rcases hpv with e | ⟨g, e, hg⟩
  · exact Or.inl e
  · exact Or.inr ⟨g, e, Nat.le_trans hk.size hg⟩
end

end Go.Proofs.Ytipakfdebccchaa
