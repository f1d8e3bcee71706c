/- The document's disk: made, begun, stopped; a stopped one refuses. -/
import Derived.Test.YtihoccaaecmcfaaR1
namespace Go.Proofs.Ytihoccaaecmcfaa
open Go.RowKit Go.Maps Go.Sort

set_option maxRecDepth 100000 in
theorem refSetCapacity {w : World} {r : Nat} {cap : Int} {fv dv kv pv qv : Value} {stop cnt : Int} (h : RefAt w r cap fv dv kv pv qv stop cnt) (n : Int) :
    Calls Try.prog 32 #[.pointer (some ⟨r, 0, none⟩), .int .i64 n] w fun e w' => e = .returned (.tuple #[]) ∧ RefAt w' r (max n 0) fv dv kv pv qv stop cnt ∧ Kept (fun k => k = r) w w' := by
  obtain ⟨c0, c1, c2, c3, c4, c5, c6, c7, cf⟩ := h.cells
  by_cases hn : n < 0
  · have e : max n 0 = 0 := by omega
    rw [e]
    go_enter Try.func32, Try.ntmps32
    go_wp2
    go_end0
    exact ⟨rfl, h.set0 _, (Kept.refl (fun k => k = r) w).setCell (p := ⟨r, 0, none⟩) (fun _ => rfl) _⟩
  · have e : max n 0 = n := by omega
    rw [e]
    go_enter Try.func32, Try.ntmps32
    go_wp2
    go_end0
    exact ⟨rfl, h.set0 _, (Kept.refl (fun k => k = r) w).setCell (p := ⟨r, 0, none⟩) (fun _ => rfl) _⟩

set_option maxRecDepth 100000 in
set_option maxHeartbeats 1000000 in
theorem refNew (n : Int) (w : World) :
    Calls Try.prog 9 #[.int .i64 n] w fun e w' => e = .returned (.pointer (some ⟨w.heap.size, 0, none⟩)) ∧ RefAt w' w.heap.size (max n 0) (.slice none 0 0) (.slice none 0 0) (.slice none 0 0) (.slice none 0 0) (.slice none 0 0) (-1) 0 ∧ Below w.heap.size w w' := by
  have hR : RefAt (w.alloc (.cells #[.int .i64 0, .slice none 0 0, .slice none 0 0, .slice none 0 0, .slice none 0 0, .slice none 0 0, .int .i64 (-1), .int .i64 0] 41)) w.heap.size 0 (.slice none 0 0) (.slice none 0 0) (.slice none 0 0) (.slice none 0 0) (.slice none 0 0) (-1) 0 := heap_alloc_new w _
  go_enter Try.func9, Try.ntmps9
  go_wp2_with (go_at_call 32; refine (refSetCapacity hR n).mono ?_; rintro e w1 ⟨rfl, hI, hk⟩)
  go_ret
  exact ⟨rfl, hI, (((Kept.refl (fun k => k = w.heap.size) w).alloc _).trans hk (fun _ _ e => e)).toBelow (Nat.le_refl _) (fun i e => Nat.le_of_eq e.symm)⟩

section
variable {w : World} {r : Nat} {cap : Int} {fv dv kv pv : Value} {cnt : Int}

set_option maxRecDepth 100000 in
set_option maxHeartbeats 1000000 in
theorem refBegin_dead (h : RefAt w r cap fv dv kv pv (.slice none 0 0) 0 cnt) (h0 : 0 ≤ cnt) (h1 : cnt < 1000000000) :
    Calls Try.prog 54 #[.pointer (some ⟨r, 0, none⟩)] w fun e w' => e = .returned (.tuple #[.int .i64 7, .int .i64 0]) ∧ RefAt w' r cap fv dv kv pv (.slice none 0 0) 0 (cnt + 1) ∧ Kept (fun k => k = r) w w' := by
  obtain ⟨c0, c1, c2, c3, c4, c5, c6, c7, cf⟩ := h.cells
  go_enter Try.func54, Try.ntmps54
  go_wp2
  go_loop [4, 5, 6] (fun a b i => a = .int .i64 0 ∧ b = .slice none 0 0 ∧ i = .int .i64 0) (fun _ _ _ => 0)
  case atStart => exact ⟨rfl, rfl, rfl⟩
  case round =>
    obtain ⟨rfl, rfl, rfl⟩ := hrel
    go_wp2
    go_ret2
    refine ⟨rfl, (h.set7 _).set5 _, ((Kept.refl (fun k => k = r) w).setCell (p := ⟨r, 7, none⟩) (fun _ => rfl) _).setCell (p := ⟨r, 5, none⟩) (fun _ => rfl) _⟩

set_option maxRecDepth 100000 in
set_option maxHeartbeats 1000000 in
theorem refBegin_on (h : RefAt w r cap fv dv kv pv (.slice none 0 0) (-1) cnt) (h0 : 0 ≤ cnt) (h1 : cnt < 1000000000) :
    Calls Try.prog 54 #[.pointer (some ⟨r, 0, none⟩)] w fun e w' => e = .returned (.tuple #[.int .i64 0, .int .i64 0]) ∧ RefAt w' r cap fv dv kv pv (.slice none 0 0) (-1) (cnt + 1) ∧ Kept (fun k => k = r) w w' := by
  obtain ⟨c0, c1, c2, c3, c4, c5, c6, c7, cf⟩ := h.cells
  go_enter Try.func54, Try.ntmps54
  go_wp2
  go_loop [4, 5, 6] (fun a b i => a = .int .i64 0 ∧ b = .slice none 0 0 ∧ i = .int .i64 0) (fun _ _ _ => 0)
  case atStart => exact ⟨rfl, rfl, rfl⟩
  case round =>
    obtain ⟨rfl, rfl, rfl⟩ := hrel
    go_wp2
    go_ret2
    refine ⟨rfl, (h.set7 _).set5 _, ((Kept.refl (fun k => k = r) w).setCell (p := ⟨r, 7, none⟩) (fun _ => rfl) _).setCell (p := ⟨r, 5, none⟩) (fun _ => rfl) _⟩

set_option maxRecDepth 100000 in
theorem refStop {qv : Value} {stop : Int} (h : RefAt w r cap fv dv kv pv qv stop cnt) :
    Calls Try.prog 24 #[.pointer (some ⟨r, 0, none⟩), .int .i64 0] w fun e w' => e = .returned (.tuple #[]) ∧ RefAt w' r cap fv dv kv pv qv 0 cnt ∧ Kept (fun k => k = r) w w' := by
  obtain ⟨c0, c1, c2, c3, c4, c5, c6, c7, cf⟩ := h.cells
  go_enter Try.func24, Try.ntmps24
  go_wp2
  go_end0
  exact ⟨rfl, h.set6 _, (Kept.refl (fun k => k = r) w).setCell (p := ⟨r, 6, none⟩) (fun _ => rfl) _⟩

variable (h : RefAt w r cap fv dv kv pv (.slice none 0 0) 0 cnt) (h0 : 0 ≤ cnt) (h1 : cnt < 1000000000)
include h h0 h1

set_option maxHeartbeats 1000000 in
theorem refCreate_dead (name : ByteArray) :
    Calls Try.prog 22 #[.pointer (some ⟨r, 0, none⟩), .string name] w fun e w' => e = .returned (.int .i64 7) ∧ RefAt w' r cap fv dv kv pv (.slice none 0 0) 0 (cnt + 1) ∧ Kept (fun k => k = r) w w' := by
  go_enter Try.func22, Try.ntmps22
  go_wp2_with (go_at_call 54; refine (refBegin_dead h h0 h1).mono ?_; rintro e w1 ⟨rfl, hI, hk⟩)
  go_ret
  exact ⟨rfl, hI, hk⟩

set_option maxHeartbeats 1000000 in
theorem refAppend_dead (name : ByteArray) (bv : Value) :
    Calls Try.prog 23 #[.pointer (some ⟨r, 0, none⟩), .string name, bv] w fun e w' => e = .returned (.int .i64 7) ∧ RefAt w' r cap fv dv kv pv (.slice none 0 0) 0 (cnt + 1) ∧ Kept (fun k => k = r) w w' := by
  go_enter Try.func23, Try.ntmps23
  go_wp2_with (go_at_call 54; refine (refBegin_dead h h0 h1).mono ?_; rintro e w1 ⟨rfl, hI, hk⟩)
  go_ret
  exact ⟨rfl, hI, hk⟩

set_option maxHeartbeats 1000000 in
theorem refRemove_dead (name : ByteArray) :
    Calls Try.prog 64 #[.pointer (some ⟨r, 0, none⟩), .string name] w fun e w' => e = .returned (.int .i64 7) ∧ RefAt w' r cap fv dv kv pv (.slice none 0 0) 0 (cnt + 1) ∧ Kept (fun k => k = r) w w' := by
  go_enter Try.func64, Try.ntmps64
  go_wp2_with (go_at_call 54; refine (refBegin_dead h h0 h1).mono ?_; rintro e w1 ⟨rfl, hI, hk⟩)
  go_ret
  exact ⟨rfl, hI, hk⟩

set_option maxHeartbeats 1000000 in
theorem refSyncDir_dead :
    Calls Try.prog 65 #[.pointer (some ⟨r, 0, none⟩)] w fun e w' => e = .returned (.int .i64 7) ∧ RefAt w' r cap fv dv kv pv (.slice none 0 0) 0 (cnt + 1) ∧ Kept (fun k => k = r) w w' := by
  go_enter Try.func65, Try.ntmps65
  go_wp2_with (go_at_call 54; refine (refBegin_dead h h0 h1).mono ?_; rintro e w1 ⟨rfl, hI, hk⟩)
  go_ret
  exact ⟨rfl, hI, hk⟩

variable {dir : List (ByteArray × Int)} {base : Nat} (hd : w.ownsRow base 99 2 dv dir.length (entCells dir)) (hl : dir.length ≤ 1000000000)
include hd hl

set_option maxHeartbeats 1000000 in
theorem refSync_dead (name : ByteArray) :
    Calls Try.prog 60 #[.pointer (some ⟨r, 0, none⟩), .string name] w fun e w' => e = .returned (.int .i64 7) ∧ RefAt w' r cap fv dv kv pv (.slice none 0 0) 0 (cnt + 1) ∧ Kept (fun k => k = r) w w' := by
  have hdr : ∀ k, dv.ownBlock = some k → ¬ k = r := fun k hk e => h.ne_row hd (by decide) (e ▸ hk)
  have HD : Hid (∀ k, dv.ownBlock = some k → ¬ k = r) := hdr
  clear hdr
  go_enter Try.func60, Try.ntmps60
  go_wp2_with (first | (go_at_call 54; refine (refBegin_dead h h0 h1).mono ?_; rintro e w1 ⟨rfl, hI, hk⟩; obtain ⟨c0, c1, c2, c3, c4, c5, c6, c7, cf⟩ := hI.cells) | (go_at_call 55; refine (refAt_any dv dir name _ base (hk.ownsRow hd HD.out) hl).mono ?_; rintro e w2 ⟨⟨i, rfl, hi⟩, rfl⟩))
  go_ret
  exact ⟨rfl, hI, hk⟩

set_option maxHeartbeats 1000000 in
theorem refRename_dead (name dest : ByteArray) :
    Calls Try.prog 62 #[.pointer (some ⟨r, 0, none⟩), .string name, .string dest] w fun e w' => e = .returned (.int .i64 7) ∧ RefAt w' r cap fv dv kv pv (.slice none 0 0) 0 (cnt + 1) ∧ Kept (fun k => k = r) w w' := by
  have hdr : ∀ k, dv.ownBlock = some k → ¬ k = r := fun k hk e => h.ne_row hd (by decide) (e ▸ hk)
  have HD : Hid (∀ k, dv.ownBlock = some k → ¬ k = r) := hdr
  clear hdr
  go_enter Try.func62, Try.ntmps62
  go_wp2_with (first | (go_at_call 54; refine (refBegin_dead h h0 h1).mono ?_; rintro e w1 ⟨rfl, hI, hk⟩; obtain ⟨c0, c1, c2, c3, c4, c5, c6, c7, cf⟩ := hI.cells) | (go_at_call 55; refine (refAt_any dv dir name _ base (hk.ownsRow hd HD.out) hl).mono ?_; rintro e w2 ⟨⟨i, rfl, hi⟩, rfl⟩))
  go_ret
  exact ⟨rfl, hI, hk⟩
end

end Go.Proofs.Ytihoccaaecmcfaa
