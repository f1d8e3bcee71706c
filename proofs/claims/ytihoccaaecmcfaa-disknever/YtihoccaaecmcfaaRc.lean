/- A stopped pair: each of the six operations. -/
import Derived.Test.YtihoccaaecmcfaaRb
namespace Go.Proofs.Ytihoccaaecmcfaa
open Go.RowKit Go.Maps Go.Sort

section
variable {w : World} {d f r p : Nat} {s : St} {v : Value} {cap : Int} {fv dv kv pv : Value} {dir : List (ByteArray × Int)} {cnt : Int} (h : Dead w d f r p s v cap fv dv kv pv dir cnt) (x : OpV)
include h

/-- What holds in the region behind the boxing. -/
theorem dead_start (act : Int) (w1 : World) (hw : w1 = w.alloc (.cells (opCells x act) 34)) : Both p d r w.heap.size x act w1 ∧ Dead w1 d f r p s v cap fv dv kv pv dir cnt ∧ Kept (fun _ => False) w w1 := by
  subst hw
  have k : Kept (fun _ => False) w (w.alloc (.cells (opCells x act) 34)) := (Kept.refl _ w).alloc _
  exact ⟨⟨k.heap h.pair id, heap_alloc_new w _⟩, h.same k (fun _ e => e.elim), k⟩

theorem dead_prog {w1 w2 : World} {act : Int} (hB : Both p d r w.heap.size x act w1) (h1 : Dead w1 d f r p s v cap fv dv kv pv dir cnt) (hI : IsDisk w2 d s.begun) (k : Kept (fun k => k = d ∨ k = s.fb) w1 w2) : Both p d r w.heap.size x act w2 ∧ Dead w2 d f r p s.begun v cap fv dv kv pv dir cnt := by
  refine ⟨hB.kept k (fun e => ?_) (fun e => ?_), h1.prog hI k⟩
  · rcases e with rfl | rfl
    · have := h1.disk.at_; unfold DiskAt at this; rw [hB.1] at this; simp at this
    · obtain ⟨es, c, hh, _⟩ := h1.disk.mF; rw [hB.1] at hh; cases hh
  · rcases e with e | e
    · have := h.disk.at_.lt; omega
    · have := h.disk.mF.lt; omega

theorem dead_doc {w1 w2 : World} {act : Int} (hB : Both p d r w.heap.size x act w1) (h1 : Dead w1 d f r p s.begun v cap fv dv kv pv dir cnt) (hR : RefAt w2 r cap fv dv kv pv (.slice none 0 0) 0 (cnt + 1)) (k : Kept (fun k => k = r) w1 w2) : Both p d r w.heap.size x act w2 ∧ Dead w2 d f r p s.begun v cap fv dv kv pv dir (cnt + 1) := by
  refine ⟨hB.kept k (fun e => ?_) (fun e => ?_), h1.doc hR k⟩
  · subst e; have := h1.ref; unfold RefAt at this; rw [hB.1] at this; simp at this
  · have := h.ref.lt; omega

omit h in
theorem dead_chain {w W w1 w2 : World} {d fb r : Nat} (h0 : Kept (fun _ => False) w W) (h1 : Kept (fun k => k = d ∨ k = fb) W.drew w1) (h2 : Kept (fun k => k = r) w1 w2) : Kept (fun k => k = d ∨ k = fb ∨ k = r) w w2 :=
  ((h0.drew.mono (fun _ _ e => e.elim)).trans (O := fun k => k = d ∨ k = fb ∨ k = r) h1 (fun _ _ e => e.elim Or.inl (fun e => Or.inr (Or.inl e)))).trans h2 (fun _ _ e => Or.inr (Or.inr e))

variable (ho : s.ops < 1000000000) (hc : cnt < 1000000000)
include ho hc

set_option maxRecDepth 100000 in
set_option maxHeartbeats 2000000 in
theorem op_create : Calls Try.prog 26 #[.pointer (some ⟨p, 0, none⟩), .agg #[.int .i64 0, .int .i64 x.n, .int .i64 x.k, .string x.name, .string x.dest, x.bv, x.cv]] w fun e w' => e = .returned (.bool true) ∧ Dead w' d f r p s.begun v cap fv dv kv pv dir (cnt + 1) ∧ Kept (fun k => k = d ∨ k = s.fb ∨ k = r) w w' := by
  have HS : Hid (∀ w1, w1 = w.alloc (.cells (opCells x 0) 34) → Both p d r w.heap.size x 0 w1 ∧ Dead w1 d f r p s v cap fv dv kv pv dir cnt ∧ Kept (fun _ => False) w w1) := fun w1 hw => dead_start h x 0 w1 hw
  have HP : Hid (∀ w1 w2, Both p d r w.heap.size x 0 w1 → Dead w1 d f r p s v cap fv dv kv pv dir cnt → IsDisk w2 d s.begun → Kept (fun k => k = d ∨ k = s.fb) w1 w2 → Both p d r w.heap.size x 0 w2 ∧ Dead w2 d f r p s.begun v cap fv dv kv pv dir cnt) := fun w1 w2 => dead_prog h x
  have HD : Hid (∀ w1 w2, Both p d r w.heap.size x 0 w1 → Dead w1 d f r p s.begun v cap fv dv kv pv dir cnt → RefAt w2 r cap fv dv kv pv (.slice none 0 0) 0 (cnt + 1) → Kept (fun k => k = r) w1 w2 → Both p d r w.heap.size x 0 w2 ∧ Dead w2 d f r p s.begun v cap fv dv kv pv dir (cnt + 1)) := fun w1 w2 => dead_doc h x
  go_enter Try.func26, Try.ntmps26
  go_wp2_with fail
  refine goOn (S := fun w1 => Both p d r w.heap.size x 0 w1 ∧ Dead w1 d f r p s v cap fv dv kv pv dir cnt ∧ Kept (fun _ => False) w w1) (HS.out _ rfl) ?_
  rintro W ⟨hB, hDd, hk⟩
  obtain ⟨b0, b1, b2, b3, b4, b5, b6⟩ := hB.all
  go_wp2_with fail
  go_region_held3 (fun w' => w'.cell? ⟨p, 0, none⟩ = some (.pointer (some ⟨d, 0, none⟩)) ∧ w'.cell? ⟨p, 1, none⟩ = some (.pointer (some ⟨r, 0, none⟩)) ∧ w'.cell? ⟨w.heap.size, 0, none⟩ = some (.int .i64 0) ∧ w'.cell? ⟨w.heap.size, 3, none⟩ = some (.string x.name) ∧ w'.cell? ⟨w.heap.size, 4, none⟩ = some (.string x.dest) ∧ w'.cell? ⟨w.heap.size, 5, none⟩ = some x.bv ∧ Both p d r w.heap.size x 0 w')
    (first | (refine Both.all ?_; exact hB) | (refine Both.all ?_; assumption))
    (first
      | (go_at_call 14; refine (create_dead (hDd.disk.kept ((Kept.refl (fun _ => False) W).drew) (fun _ _ e => e)) hDd.stop ho x.name).mono ?_; rintro e w1 ⟨rfl, hI1, hk1⟩; obtain ⟨hB1, hD1⟩ := HP.out W.drew w1 hB (hDd.same ((Kept.refl (fun _ => False) W).drew) (fun _ e => e.elim)) hI1 hk1)
      | (go_at_call 22; refine (refCreate_dead hD1.ref hD1.c0 hc x.name).mono ?_; rintro e w2 ⟨rfl, hR2, hk2⟩; obtain ⟨hB2, hD2⟩ := HD.out w1 w2 hB1 hD1 hR2 hk2))
  all_goals
    go_wp2
    go_ret
    exact ⟨rfl, hD2, dead_chain hk hk1 hk2⟩

set_option maxRecDepth 100000 in
set_option maxHeartbeats 2000000 in
theorem op_remove : Calls Try.prog 26 #[.pointer (some ⟨p, 0, none⟩), .agg #[.int .i64 4, .int .i64 x.n, .int .i64 x.k, .string x.name, .string x.dest, x.bv, x.cv]] w fun e w' => e = .returned (.bool true) ∧ Dead w' d f r p s.begun v cap fv dv kv pv dir (cnt + 1) ∧ Kept (fun k => k = d ∨ k = s.fb ∨ k = r) w w' := by
  have HS : Hid (∀ w1, w1 = w.alloc (.cells (opCells x 4) 34) → Both p d r w.heap.size x 4 w1 ∧ Dead w1 d f r p s v cap fv dv kv pv dir cnt ∧ Kept (fun _ => False) w w1) := fun w1 hw => dead_start h x 4 w1 hw
  have HP : Hid (∀ w1 w2, Both p d r w.heap.size x 4 w1 → Dead w1 d f r p s v cap fv dv kv pv dir cnt → IsDisk w2 d s.begun → Kept (fun k => k = d ∨ k = s.fb) w1 w2 → Both p d r w.heap.size x 4 w2 ∧ Dead w2 d f r p s.begun v cap fv dv kv pv dir cnt) := fun w1 w2 => dead_prog h x
  have HD : Hid (∀ w1 w2, Both p d r w.heap.size x 4 w1 → Dead w1 d f r p s.begun v cap fv dv kv pv dir cnt → RefAt w2 r cap fv dv kv pv (.slice none 0 0) 0 (cnt + 1) → Kept (fun k => k = r) w1 w2 → Both p d r w.heap.size x 4 w2 ∧ Dead w2 d f r p s.begun v cap fv dv kv pv dir (cnt + 1)) := fun w1 w2 => dead_doc h x
  go_enter Try.func26, Try.ntmps26
  go_wp2_with fail
  refine goOn (S := fun w1 => Both p d r w.heap.size x 4 w1 ∧ Dead w1 d f r p s v cap fv dv kv pv dir cnt ∧ Kept (fun _ => False) w w1) (HS.out _ rfl) ?_
  rintro W ⟨hB, hDd, hk⟩
  obtain ⟨b0, b1, b2, b3, b4, b5, b6⟩ := hB.all
  go_wp2_with fail
  go_region_held3 (fun w' => w'.cell? ⟨p, 0, none⟩ = some (.pointer (some ⟨d, 0, none⟩)) ∧ w'.cell? ⟨p, 1, none⟩ = some (.pointer (some ⟨r, 0, none⟩)) ∧ w'.cell? ⟨w.heap.size, 0, none⟩ = some (.int .i64 4) ∧ w'.cell? ⟨w.heap.size, 3, none⟩ = some (.string x.name) ∧ w'.cell? ⟨w.heap.size, 4, none⟩ = some (.string x.dest) ∧ w'.cell? ⟨w.heap.size, 5, none⟩ = some x.bv ∧ Both p d r w.heap.size x 4 w')
    (first | (refine Both.all ?_; exact hB) | (refine Both.all ?_; assumption))
    (first
      | (go_at_call 63; refine (remove_dead (hDd.disk.kept ((Kept.refl (fun _ => False) W).drew) (fun _ _ e => e)) hDd.stop ho x.name).mono ?_; rintro e w1 ⟨rfl, hI1, hk1⟩; obtain ⟨hB1, hD1⟩ := HP.out W.drew w1 hB (hDd.same ((Kept.refl (fun _ => False) W).drew) (fun _ e => e.elim)) hI1 hk1)
      | (go_at_call 64; refine (refRemove_dead hD1.ref hD1.c0 hc x.name).mono ?_; rintro e w2 ⟨rfl, hR2, hk2⟩; obtain ⟨hB2, hD2⟩ := HD.out w1 w2 hB1 hD1 hR2 hk2))
  all_goals
    go_wp2
    go_ret
    exact ⟨rfl, hD2, dead_chain hk hk1 hk2⟩

set_option maxRecDepth 100000 in
set_option maxHeartbeats 2000000 in
theorem op_syncDir : Calls Try.prog 26 #[.pointer (some ⟨p, 0, none⟩), .agg #[.int .i64 5, .int .i64 x.n, .int .i64 x.k, .string x.name, .string x.dest, x.bv, x.cv]] w fun e w' => e = .returned (.bool true) ∧ Dead w' d f r p s.begun v cap fv dv kv pv dir (cnt + 1) ∧ Kept (fun k => k = d ∨ k = s.fb ∨ k = r) w w' := by
  have HS : Hid (∀ w1, w1 = w.alloc (.cells (opCells x 5) 34) → Both p d r w.heap.size x 5 w1 ∧ Dead w1 d f r p s v cap fv dv kv pv dir cnt ∧ Kept (fun _ => False) w w1) := fun w1 hw => dead_start h x 5 w1 hw
  have HP : Hid (∀ w1 w2, Both p d r w.heap.size x 5 w1 → Dead w1 d f r p s v cap fv dv kv pv dir cnt → IsDisk w2 d s.begun → Kept (fun k => k = d ∨ k = s.fb) w1 w2 → Both p d r w.heap.size x 5 w2 ∧ Dead w2 d f r p s.begun v cap fv dv kv pv dir cnt) := fun w1 w2 => dead_prog h x
  have HD : Hid (∀ w1 w2, Both p d r w.heap.size x 5 w1 → Dead w1 d f r p s.begun v cap fv dv kv pv dir cnt → RefAt w2 r cap fv dv kv pv (.slice none 0 0) 0 (cnt + 1) → Kept (fun k => k = r) w1 w2 → Both p d r w.heap.size x 5 w2 ∧ Dead w2 d f r p s.begun v cap fv dv kv pv dir (cnt + 1)) := fun w1 w2 => dead_doc h x
  go_enter Try.func26, Try.ntmps26
  go_wp2_with fail
  refine goOn (S := fun w1 => Both p d r w.heap.size x 5 w1 ∧ Dead w1 d f r p s v cap fv dv kv pv dir cnt ∧ Kept (fun _ => False) w w1) (HS.out _ rfl) ?_
  rintro W ⟨hB, hDd, hk⟩
  obtain ⟨b0, b1, b2, b3, b4, b5, b6⟩ := hB.all
  go_wp2_with fail
  go_region_held3 (fun w' => w'.cell? ⟨p, 0, none⟩ = some (.pointer (some ⟨d, 0, none⟩)) ∧ w'.cell? ⟨p, 1, none⟩ = some (.pointer (some ⟨r, 0, none⟩)) ∧ w'.cell? ⟨w.heap.size, 0, none⟩ = some (.int .i64 5) ∧ w'.cell? ⟨w.heap.size, 3, none⟩ = some (.string x.name) ∧ w'.cell? ⟨w.heap.size, 4, none⟩ = some (.string x.dest) ∧ w'.cell? ⟨w.heap.size, 5, none⟩ = some x.bv ∧ Both p d r w.heap.size x 5 w')
    (first | (refine Both.all ?_; exact hB) | (refine Both.all ?_; assumption))
    (first
      | (go_at_call 17; refine (syncDir_dead (hDd.disk.kept ((Kept.refl (fun _ => False) W).drew) (fun _ _ e => e)) hDd.stop ho).mono ?_; rintro e w1 ⟨rfl, hI1, hk1⟩; obtain ⟨hB1, hD1⟩ := HP.out W.drew w1 hB (hDd.same ((Kept.refl (fun _ => False) W).drew) (fun _ e => e.elim)) hI1 hk1)
      | (go_at_call 65; refine (refSyncDir_dead hD1.ref hD1.c0 hc).mono ?_; rintro e w2 ⟨rfl, hR2, hk2⟩; obtain ⟨hB2, hD2⟩ := HD.out w1 w2 hB1 hD1 hR2 hk2))
  all_goals
    go_wp2
    go_ret
    exact ⟨rfl, hD2, dead_chain hk hk1 hk2⟩

variable (hl : dir.length ≤ 1000000000)
include hl

set_option maxRecDepth 100000 in
set_option maxHeartbeats 2000000 in
theorem op_sync : Calls Try.prog 26 #[.pointer (some ⟨p, 0, none⟩), .agg #[.int .i64 2, .int .i64 x.n, .int .i64 x.k, .string x.name, .string x.dest, x.bv, x.cv]] w fun e w' => e = .returned (.bool true) ∧ Dead w' d f r p s.begun v cap fv dv kv pv dir (cnt + 1) ∧ Kept (fun k => k = d ∨ k = s.fb ∨ k = r) w w' := by
  have HS : Hid (∀ w1, w1 = w.alloc (.cells (opCells x 2) 34) → Both p d r w.heap.size x 2 w1 ∧ Dead w1 d f r p s v cap fv dv kv pv dir cnt ∧ Kept (fun _ => False) w w1) := fun w1 hw => dead_start h x 2 w1 hw
  have HP : Hid (∀ w1 w2, Both p d r w.heap.size x 2 w1 → Dead w1 d f r p s v cap fv dv kv pv dir cnt → IsDisk w2 d s.begun → Kept (fun k => k = d ∨ k = s.fb) w1 w2 → Both p d r w.heap.size x 2 w2 ∧ Dead w2 d f r p s.begun v cap fv dv kv pv dir cnt) := fun w1 w2 => dead_prog h x
  have HD : Hid (∀ w1 w2, Both p d r w.heap.size x 2 w1 → Dead w1 d f r p s.begun v cap fv dv kv pv dir cnt → RefAt w2 r cap fv dv kv pv (.slice none 0 0) 0 (cnt + 1) → Kept (fun k => k = r) w1 w2 → Both p d r w.heap.size x 2 w2 ∧ Dead w2 d f r p s.begun v cap fv dv kv pv dir (cnt + 1)) := fun w1 w2 => dead_doc h x
  go_enter Try.func26, Try.ntmps26
  go_wp2_with fail
  refine goOn (S := fun w1 => Both p d r w.heap.size x 2 w1 ∧ Dead w1 d f r p s v cap fv dv kv pv dir cnt ∧ Kept (fun _ => False) w w1) (HS.out _ rfl) ?_
  rintro W ⟨hB, hDd, hk⟩
  obtain ⟨b0, b1, b2, b3, b4, b5, b6⟩ := hB.all
  go_wp2_with fail
  go_region_held3 (fun w' => w'.cell? ⟨p, 0, none⟩ = some (.pointer (some ⟨d, 0, none⟩)) ∧ w'.cell? ⟨p, 1, none⟩ = some (.pointer (some ⟨r, 0, none⟩)) ∧ w'.cell? ⟨w.heap.size, 0, none⟩ = some (.int .i64 2) ∧ w'.cell? ⟨w.heap.size, 3, none⟩ = some (.string x.name) ∧ w'.cell? ⟨w.heap.size, 4, none⟩ = some (.string x.dest) ∧ w'.cell? ⟨w.heap.size, 5, none⟩ = some x.bv ∧ Both p d r w.heap.size x 2 w')
    (first | (refine Both.all ?_; exact hB) | (refine Both.all ?_; assumption))
    (first
      | (go_at_call 16; refine (sync_dead (hDd.disk.kept ((Kept.refl (fun _ => False) W).drew) (fun _ _ e => e)) hDd.stop ho x.name).mono ?_; rintro e w1 ⟨rfl, hI1, hk1⟩; obtain ⟨hB1, hD1⟩ := HP.out W.drew w1 hB (hDd.same ((Kept.refl (fun _ => False) W).drew) (fun _ e => e.elim)) hI1 hk1)
      | (go_at_call 60; refine (refSync_dead hD1.ref hD1.c0 hc hD1.rD hl x.name).mono ?_; rintro e w2 ⟨rfl, hR2, hk2⟩; obtain ⟨hB2, hD2⟩ := HD.out w1 w2 hB1 hD1 hR2 hk2))
  all_goals
    go_wp2
    go_ret
    exact ⟨rfl, hD2, dead_chain hk hk1 hk2⟩

set_option maxRecDepth 100000 in
set_option maxHeartbeats 2000000 in
theorem op_rename : Calls Try.prog 26 #[.pointer (some ⟨p, 0, none⟩), .agg #[.int .i64 3, .int .i64 x.n, .int .i64 x.k, .string x.name, .string x.dest, x.bv, x.cv]] w fun e w' => e = .returned (.bool true) ∧ Dead w' d f r p s.begun v cap fv dv kv pv dir (cnt + 1) ∧ Kept (fun k => k = d ∨ k = s.fb ∨ k = r) w w' := by
  have HS : Hid (∀ w1, w1 = w.alloc (.cells (opCells x 3) 34) → Both p d r w.heap.size x 3 w1 ∧ Dead w1 d f r p s v cap fv dv kv pv dir cnt ∧ Kept (fun _ => False) w w1) := fun w1 hw => dead_start h x 3 w1 hw
  have HP : Hid (∀ w1 w2, Both p d r w.heap.size x 3 w1 → Dead w1 d f r p s v cap fv dv kv pv dir cnt → IsDisk w2 d s.begun → Kept (fun k => k = d ∨ k = s.fb) w1 w2 → Both p d r w.heap.size x 3 w2 ∧ Dead w2 d f r p s.begun v cap fv dv kv pv dir cnt) := fun w1 w2 => dead_prog h x
  have HD : Hid (∀ w1 w2, Both p d r w.heap.size x 3 w1 → Dead w1 d f r p s.begun v cap fv dv kv pv dir cnt → RefAt w2 r cap fv dv kv pv (.slice none 0 0) 0 (cnt + 1) → Kept (fun k => k = r) w1 w2 → Both p d r w.heap.size x 3 w2 ∧ Dead w2 d f r p s.begun v cap fv dv kv pv dir (cnt + 1)) := fun w1 w2 => dead_doc h x
  go_enter Try.func26, Try.ntmps26
  go_wp2_with fail
  refine goOn (S := fun w1 => Both p d r w.heap.size x 3 w1 ∧ Dead w1 d f r p s v cap fv dv kv pv dir cnt ∧ Kept (fun _ => False) w w1) (HS.out _ rfl) ?_
  rintro W ⟨hB, hDd, hk⟩
  obtain ⟨b0, b1, b2, b3, b4, b5, b6⟩ := hB.all
  go_wp2_with fail
  go_region_held3 (fun w' => w'.cell? ⟨p, 0, none⟩ = some (.pointer (some ⟨d, 0, none⟩)) ∧ w'.cell? ⟨p, 1, none⟩ = some (.pointer (some ⟨r, 0, none⟩)) ∧ w'.cell? ⟨w.heap.size, 0, none⟩ = some (.int .i64 3) ∧ w'.cell? ⟨w.heap.size, 3, none⟩ = some (.string x.name) ∧ w'.cell? ⟨w.heap.size, 4, none⟩ = some (.string x.dest) ∧ w'.cell? ⟨w.heap.size, 5, none⟩ = some x.bv ∧ Both p d r w.heap.size x 3 w')
    (first | (refine Both.all ?_; exact hB) | (refine Both.all ?_; assumption))
    (first
      | (go_at_call 61; refine (rename_dead (hDd.disk.kept ((Kept.refl (fun _ => False) W).drew) (fun _ _ e => e)) hDd.stop ho x.name x.dest).mono ?_; rintro e w1 ⟨rfl, hI1, hk1⟩; obtain ⟨hB1, hD1⟩ := HP.out W.drew w1 hB (hDd.same ((Kept.refl (fun _ => False) W).drew) (fun _ e => e.elim)) hI1 hk1)
      | (go_at_call 62; refine (refRename_dead hD1.ref hD1.c0 hc hD1.rD hl x.name x.dest).mono ?_; rintro e w2 ⟨rfl, hR2, hk2⟩; obtain ⟨hB2, hD2⟩ := HD.out w1 w2 hB1 hD1 hR2 hk2))
  all_goals
    go_wp2
    go_ret
    exact ⟨rfl, hD2, dead_chain hk hk1 hk2⟩

end
end Go.Proofs.Ytihoccaaecmcfaa
