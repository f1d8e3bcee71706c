/- A disk is stopped; a stopped disk refuses; the names are listed. -/
import Derived.Test.YtihoccaaecmcfaaWi
namespace Go.Proofs.Ytihoccaaecmcfaa
open Go.RowKit Go.Maps Go.Sort

section
variable {w : World} {d : Nat} {s : St} (h : IsDisk w d s)
include h

set_option maxRecDepth 100000 in
theorem stop_zero :
    Calls Try.prog 21 #[.pointer (some ⟨d, 0, none⟩), .int .i64 0] w fun e w' => e = .returned (.tuple #[]) ∧ IsDisk w' d { s with stop := 0 } ∧ Kept (fun k => k = d) w w' := by
  obtain ⟨c0, c1, c2, c3, c4, c5, c6, c7, cf⟩ := h.at_.cells
  go_enter Try.func21, Try.ntmps21
  go_wp2
  go_end0
  have k : Kept (fun k => k = d) w (w.setCell ⟨d, 7, none⟩ (.int .i64 0)) := (Kept.refl (fun k => k = d) w).setCell (p := ⟨d, 7, none⟩) (fun _ => rfl) _
  refine ⟨rfl, ⟨h.at_.set7 _, ?_, ?_, ?_, ?_, h.nd, h.nf, h.df, h.o0, by show (-1 : Int) ≤ 0; omega, by show (0 : Int) ≤ _; omega⟩, k⟩
  · exact k.ownsMap h.mN (fun e => h.at_.ne_map h.mN e.symm)
  · exact k.ownsMap h.mD (fun e => h.at_.ne_map h.mD e.symm)
  · exact k.ownsMap h.mF (fun e => h.at_.ne_map h.mF e.symm)
  · exact k.ownsRow h.row (fun i hi e => h.at_.ne_row h.row (by decide) (e ▸ hi))

set_option maxHeartbeats 1000000 in
theorem list_any (p : ByteArray) (hn : s.n < 1000000000) : Calls Try.prog 27 #[.pointer (some ⟨d, 0, none⟩), .string p] w fun e w' => ∃ v, e = .returned v ∧
      w'.ownsRow w.heap.size 9 1 v (risen s.N p.data.toList).length ((risen s.N p.data.toList).map encStr) ∧ Below w.heap.size w w' := by
  obtain ⟨c0, c1, c2, c3, c4, c5, c6, c7, cf⟩ := h.at_.cells
  go_enter Try.func27, Try.ntmps27
  go_wp2_with (go_at_call 51; refine (rising_any _ _ p _ w h.mN hn).mono ?_; rintro e w1 ⟨v, rfl, hr, hb⟩)
  go_ret
  exact ⟨v, rfl, hr, hb⟩

variable (hs : s.stop = 0) (ho : s.ops < 1000000000)
include hs ho

theorem begin_dead : Calls Try.prog 44 #[.pointer (some ⟨d, 0, none⟩)] w fun e w' => e = .returned (.tuple #[.int .i64 7, .bool false]) ∧ IsDisk w' d s.begun ∧ Kept (fun k => k = d ∨ k = s.fb) w w' := by
  obtain ⟨c, _, hbeg⟩ := begin_is h ho
  refine hbeg.mono ?_
  rintro e w' ⟨rfl, h2⟩
  refine ⟨?_, h2⟩
  simp [St.err, bErr, bTorn, hs]

set_option maxHeartbeats 1000000 in
theorem create_dead (name : ByteArray) : Calls Try.prog 14 #[.pointer (some ⟨d, 0, none⟩), .string name] w fun e w' => e = .returned (.int .i64 7) ∧ IsDisk w' d s.begun ∧ Kept (fun k => k = d ∨ k = s.fb) w w' := by
  go_enter Try.func14, Try.ntmps14
  go_wp2_with (go_at_call 44; refine (begin_dead h hs ho).mono ?_; rintro e w1 ⟨rfl, hI, hk⟩)
  go_ret
  exact ⟨rfl, hI, hk⟩

set_option maxHeartbeats 1000000 in
theorem append_dead (name : ByteArray) (bv : Value) : Calls Try.prog 15 #[.pointer (some ⟨d, 0, none⟩), .string name, bv] w fun e w' => e = .returned (.int .i64 7) ∧ IsDisk w' d s.begun ∧ Kept (fun k => k = d ∨ k = s.fb) w w' := by
  go_enter Try.func15, Try.ntmps15
  go_wp2_with (go_at_call 44; refine (begin_dead h hs ho).mono ?_; rintro e w1 ⟨rfl, hI, hk⟩)
  go_ret
  exact ⟨rfl, hI, hk⟩

set_option maxHeartbeats 1000000 in
theorem sync_dead (name : ByteArray) : Calls Try.prog 16 #[.pointer (some ⟨d, 0, none⟩), .string name] w fun e w' => e = .returned (.int .i64 7) ∧ IsDisk w' d s.begun ∧ Kept (fun k => k = d ∨ k = s.fb) w w' := by
  go_enter Try.func16, Try.ntmps16
  go_wp2_with (go_at_call 44; refine (begin_dead h hs ho).mono ?_; rintro e w1 ⟨rfl, hI, hk⟩)
  go_ret
  exact ⟨rfl, hI, hk⟩

set_option maxHeartbeats 1000000 in
theorem rename_dead (name dest : ByteArray) : Calls Try.prog 61 #[.pointer (some ⟨d, 0, none⟩), .string name, .string dest] w fun e w' => e = .returned (.int .i64 7) ∧ IsDisk w' d s.begun ∧ Kept (fun k => k = d ∨ k = s.fb) w w' := by
  go_enter Try.func61, Try.ntmps61
  go_wp2_with (go_at_call 44; refine (begin_dead h hs ho).mono ?_; rintro e w1 ⟨rfl, hI, hk⟩)
  go_ret
  exact ⟨rfl, hI, hk⟩

set_option maxHeartbeats 1000000 in
theorem remove_dead (name : ByteArray) : Calls Try.prog 63 #[.pointer (some ⟨d, 0, none⟩), .string name] w fun e w' => e = .returned (.int .i64 7) ∧ IsDisk w' d s.begun ∧ Kept (fun k => k = d ∨ k = s.fb) w w' := by
  go_enter Try.func63, Try.ntmps63
  go_wp2_with (go_at_call 44; refine (begin_dead h hs ho).mono ?_; rintro e w1 ⟨rfl, hI, hk⟩)
  go_ret
  exact ⟨rfl, hI, hk⟩

set_option maxHeartbeats 1000000 in
theorem syncDir_dead : Calls Try.prog 17 #[.pointer (some ⟨d, 0, none⟩)] w fun e w' => e = .returned (.int .i64 7) ∧ IsDisk w' d s.begun ∧ Kept (fun k => k = d ∨ k = s.fb) w w' := by
  go_enter Try.func17, Try.ntmps17
  go_wp2_with (go_at_call 44; refine (begin_dead h hs ho).mono ?_; rintro e w1 ⟨rfl, hI, hk⟩)
  go_ret
  exact ⟨rfl, hI, hk⟩
end

end Go.Proofs.Ytihoccaaecmcfaa
