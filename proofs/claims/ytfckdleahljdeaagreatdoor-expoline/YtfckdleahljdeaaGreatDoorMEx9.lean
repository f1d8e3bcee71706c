/- Texts that belong together. -/
import Derived.Test.YtfckdleahljdeaaGreatDoorMEx8
/- A line's labels as a set. -/
namespace Go.Proofs.YtfckdleahljdeaaGreatDoor
open Go.RowKit Go.Maps

theorem not_has {ls : List Lb} {n : ByteArray} (h : Not ls n ls.length) : hasL ls n = false := by
  rw [hasL_find, h.none]
  rfl
theorem is_has {ls : List Lb} {n : ByteArray} {k : Nat} (hk : k < ls.length) (hc : (ls[k].1.toList == n.toList) = true) : hasL ls n = true := by
  unfold hasL
  rw [List.any_eq_true]
  exact ⟨ls[k], List.getElem_mem hk, hc⟩
theorem name_list : nameB.toList = [95, 95, 110, 97, 109, 101, 95, 95] := by
  rw [ByteArray.toList_eq]
  rfl
/-- The rest of labels behind the first. -/
theorem LabsAt.rest {w : World} {b o c : Nat} {x0 : Lb} {ls : List Lb} (h : LabsAt w (.slice (some ⟨b, o, none⟩) (x0 :: ls).length c) (x0 :: ls)) : LabsAt w (.slice (some ⟨b, o + 2, none⟩) ls.length (c - 1)) ls := by
  have := h.drop 1 (by simp)
  simpa using this

/-- What is answered of labels that are to be a set. -/
def SetP (w : World) (x0 : Lb) (ls : List Lb) (e : Ending) (w' : World) : Prop :=
  if hasL ls nameB = true then e = .returned (.tuple #[.slice none 0 0, .int .i64 2])
  else ∃ v', e = .returned (.tuple #[v', .int .i64 (newR (x0 :: ls)).2]) ∧ w'.ownsRow w.heap.size 49 2 v' (newR (x0 :: ls)).1.length (lbCells (newR (x0 :: ls)).1)

set_option maxRecDepth 100000 in
set_option maxHeartbeats 4000000 in
theorem setOf_any (v : Value) (x0 : Lb) (ls : List Lb) (w : World) (h : LabsAt w v (x0 :: ls)) (hl : ls.length ≤ 800) (hsz : Sized (x0 :: ls)) (hT : Tabs w) :
    Calls Tryz.prog 24 #[v] w fun e w' => SetP w x0 ls e w' ∧ Below w.heap.size w w' := by
  obtain ⟨a, c, rfl, hlc, -⟩ := id h
  obtain ⟨b, o, rfl, -⟩ := h.one 0 (by simp)
  have HC : Hid (LabsAt w (.slice (some ⟨b, o, none⟩) (x0 :: ls).length c) (x0 :: ls)) := h
  have HD : Hid (LabsAt w (.slice (some ⟨b, o + 2, none⟩) ls.length (c - 1)) ls) := h.rest
  have HN : Hid (∀ W, Below w.heap.size w W → Calls Tryz.prog 41 #[.slice (some ⟨b, o, none⟩) (ls.length + 1) c] W fun e w' => (∃ v', e = .returned (.tuple #[v', .int .i64 (newR (x0 :: ls)).2]) ∧ w'.ownsRow w.heap.size 49 2 v' (newR (x0 :: ls)).1.length (lbCells (newR (x0 :: ls)).1)) ∧ Below w.heap.size w w') := fun W hb => (new_any _ (x0 :: ls) W (h.below hb) (by simp; omega) hsz (hT.below hb)).mono (by
    rintro e w' ⟨v', he, hr, hb'⟩
    exact ⟨⟨v', he, hr.1, hr.2.imp id (fun ⟨g, cap, cur, e1, e2, e3⟩ => ⟨g, cap, cur, e1, Nat.le_trans hb.size e2, e3⟩)⟩, hb.trans (hb'.mono hb.size)⟩)
  have hlc2 : ls.length + 1 ≤ c := by simpa using hlc.1
  have hlc3 : c ≤ 9223372036854775807 := Nat.le_trans hlc.2 (by unfold maxLen; decide)
  clear h hsz hT hlc
  by_cases h0 : ls.length = 0
  · have HA : Hid (hasL ls nameB = false) := by
      show _ = _
      rw [List.length_eq_zero_iff.1 h0]
      rfl
    rw [h0] at HN
    by_cases hc1 : c = 1
    · subst hc1
      go_enter Tryz.func24, Tryz.ntmps24
      go_wp2
      go_loopw [9] (fun i wr => i = .int .i64 0 ∧ Hid (Below w.heap.size w wr)) (fun _ _ => 0)
      case atStart => exact ⟨rfl, Below.refl _ _⟩
      case round =>
        obtain ⟨rfl, hbel⟩ := hrel
        go_wp2_with (go_at_call 41; refine (HN.out _ hbel.out).mono ?_; rintro e w1 ⟨⟨v1, rfl, hr1⟩, hb1⟩)
        go_ret2
        refine ⟨?_, hb1⟩
        unfold SetP
        rw [if_neg (by rw [HA.out]; simp)]
        exact ⟨v1, rfl, hr1⟩
    · have hc2 : c - 1 ≠ 0 := by omega
      go_enter Tryz.func24, Tryz.ntmps24
      go_wp2
      go_loopw [9] (fun i wr => i = .int .i64 0 ∧ Hid (Below w.heap.size w wr)) (fun _ _ => 0)
      case atStart => exact ⟨rfl, Below.refl _ _⟩
      case round =>
        obtain ⟨rfl, hbel⟩ := hrel
        go_wp2_with (go_at_call 41; refine (HN.out _ hbel.out).mono ?_; rintro e w1 ⟨⟨v1, rfl, hr1⟩, hb1⟩)
        go_ret2
        refine ⟨?_, hb1⟩
        unfold SetP
        rw [if_neg (by rw [HA.out]; simp)]
        exact ⟨v1, rfl, hr1⟩
  · have hc1 : c - 1 ≠ 0 := by omega
    go_enter Tryz.func24, Tryz.ntmps24
    go_wp2
    go_loopw [9] (fun i wr => ∃ k : Nat, k ≤ ls.length ∧ i = .int .i64 k ∧ Hid (Not ls nameB k) ∧ Hid (Below w.heap.size w wr)) (fun i _ => ls.length - (intOf i).toNat)
    case atStart => exact ⟨0, Nat.zero_le _, rfl, Not.zero, Below.refl _ _⟩
    case round =>
      obtain ⟨k, hk, rfl, hall, hbel⟩ := hrel
      by_cases hlt : k < ls.length
      · obtain ⟨b', o', e', hone⟩ := HD.out.one k hlt
        cases e'
        obtain ⟨h0, h1⟩ := hone wr hbel.out
        clear hone
        obtain ⟨x, hx⟩ : ∃ x, x = ls[k].1 := ⟨_, rfl⟩
        obtain ⟨y, hy⟩ : ∃ y, y = ls[k].2 := ⟨_, rfl⟩
        rw [← hx] at h0
        rw [← hy] at h1
        have HX : Hid (x = ls[k].1) := hx
        have HB1 : Hid (Below w.heap.size w (wr.alloc (.cells #[.string x, .string y] 49 (0, 0)))) := hbel.out.alloc hbel.out.size _
        clear hx hy HN
        cases hxn : (x.toList == [95, 95, 110, 97, 109, 101, 95, 95])
        · have HN : Hid (Not ls nameB (k + 1)) := hall.out.succ hlt (by rw [← HX.out, name_list]; exact hxn)
          clear hall HX
          go_wp2
          go_roundw
          case rel => exact ⟨k + 1, by omega, by go_num, HN, HB1⟩
          case measure => simp [intOf]; omega
        · have HA : Hid (hasL ls nameB = true) := is_has hlt (by rw [← HX.out, name_list]; exact hxn)
          clear hall HX
          go_wp2
          go_ret2
          refine ⟨?_, HB1.out⟩
          unfold SetP
          rw [if_pos HA.out]
          rfl
      · have HA : Hid (hasL ls nameB = false) := by
          have e : k = ls.length := by omega
          subst e
          exact not_has hall.out
        clear hall
        go_wp2_with (go_at_call 41; refine (HN.out _ hbel.out).mono ?_; rintro e w1 ⟨⟨v1, rfl, hr1⟩, hb1⟩)
        go_ret2
        refine ⟨?_, hb1⟩
        unfold SetP
        rw [if_neg (by rw [HA.out]; simp)]
        exact ⟨v1, rfl, hr1⟩
end Go.Proofs.YtfckdleahljdeaaGreatDoor

/- A cursor on a line: the whole line. -/
namespace Go.Proofs.YtfckdleahljdeaaGreatDoor
open Go.RowKit Go.Maps

theorem run_store_float (P : Program) (w : World) (a : Addr) (m : Mode) (k : FloatKind) (n : Nat) : (store a (.float k n) m).run P w = stored P w a (.float k n) m := run_store P w a _ m rfl
attribute [local go_sem] run_store_float

/-- Behind the value: the time, or the end. -/
noncomputable def numsE (s name : ByteArray) (ls : List Lb) (V : Nat) (T : Int) (hasT : Bool) (i : Nat) : LRes :=
  if skipP s.data.toList i < s.size then .bad (skipP s.data.toList i) 8 else setR name ls V T hasT
theorem sk_end {s : ByteArray} {i : Nat} (h : i = s.size) : skipP s.data.toList i = s.size := by
  unfold skipP
  rw [runP_end (by rw [len_list]; omega), h]
/-- Behind the value and its blanks. -/
noncomputable def numsB (s name : ByteArray) (ls : List Lb) (V k : Nat) : LRes :=
  if k < s.size then
    if (Nu.intR (s.extract k (tokP s.data.toList k))).2 ≠ 0 ∨ (Nu.intR (s.extract k (tokP s.data.toList k))).1 < -9007199254740992 ∨ 9007199254740992 < (Nu.intR (s.extract k (tokP s.data.toList k))).1 then .bad k 8
    else numsE s name ls V (Nu.intR (s.extract k (tokP s.data.toList k))).1 true (tokP s.data.toList k)
  else setR name ls V 0 false
theorem nums_ok {s N : ByteArray} {ls : List Lb} {i V : Nat} (h : Nu.parseR (s.extract i (tokP s.data.toList i)) = (V, 0)) : numsR s N ls i = numsB s N ls V (skipP s.data.toList (tokP s.data.toList i)) := by
  unfold numsR numsB numsE
  rw [h, if_neg (by simp)]
theorem numsB_end {s N : ByteArray} {ls : List Lb} {V k : Nat} (h : k = s.size) : numsB s N ls V k = numsE s N ls V 0 false k := by
  unfold numsB numsE
  rw [if_neg (by omega), sk_end h, if_neg (by omega)]
theorem numsB_bad {s N : ByteArray} {ls : List Lb} {V k : Nat} (h : k < s.size) (hb : (Nu.intR (s.extract k (tokP s.data.toList k))).2 ≠ 0 ∨ (Nu.intR (s.extract k (tokP s.data.toList k))).1 < -9007199254740992 ∨ 9007199254740992 < (Nu.intR (s.extract k (tokP s.data.toList k))).1) : numsB s N ls V k = .bad k 8 := by
  unfold numsB
  rw [if_pos h, if_pos hb]
theorem numsB_time {s N : ByteArray} {ls : List Lb} {V k : Nat} {T : Int} (h : k < s.size) (hb : Nu.intR (s.extract k (tokP s.data.toList k)) = (T, 0)) (h1 : -9007199254740992 ≤ T) (h2 : T ≤ 9007199254740992) : numsB s N ls V k = numsE s N ls V T true (tokP s.data.toList k) := by
  unfold numsB
  rw [if_pos h, hb, if_neg (by simp; omega)]
theorem numsE_more {s N : ByteArray} {ls : List Lb} {V i : Nat} {T : Int} {h : Bool} (hk : skipP s.data.toList i < s.size) : numsE s N ls V T h i = .bad (skipP s.data.toList i) 8 := by
  unfold numsE
  rw [if_pos hk]
theorem numsE_end {s N : ByteArray} {ls : List Lb} {V i : Nat} {T : Int} {h : Bool} (hk : skipP s.data.toList i = s.size) : numsE s N ls V T h i = setR N ls V T h := by
  unfold numsE
  rw [if_neg (by omega)]
theorem nums_bad {s N : ByteArray} {ls : List Lb} {i : Nat} (h : (Nu.parseR (s.extract i (tokP s.data.toList i))).2 ≠ 0) : numsR s N ls i = .bad i 8 := by
  unfold numsR
  rw [if_pos h]

/-- What labels are refused for. -/
theorem labsR_err (s : ByteArray) : ∀ (n i : Nat) (acc : List Lb) (p : Nat) (e : Int), i ≤ s.size → labsR s n i acc = .inl (p, e) → p ≤ s.size ∧ (e = 8 ∨ e = 13) := by
  intro n
  induction n with
  | zero =>
    intro i acc p e hi h
    simp only [labsR, Sum.inl.injEq, Prod.mk.injEq] at h
    omega
  | succ n ih =>
    intro i acc p e hi h
    unfold labsR at h
    have k2 := sk_le hi
    generalize skipP s.data.toList i = k at *
    split at h
    · cases h
    · split at h
      · rename_i pe hl
        simp only [Sum.inl.injEq] at h
        subst h
        have := (labR_place s k k2).1 p e hl
        omega
      · rename_i x p' hl
        obtain ⟨hp1, hp2⟩ := (labR_place s k k2).2 x p' hl
        have q2 := sk_le hp2
        generalize skipP s.data.toList p' = q at *
        split at h
        · simp only [Sum.inl.injEq, Prod.mk.injEq] at h
          omega
        · split at h
          · rename_i h3
            have := some_lt h3
            exact ih (q + 1) _ p e (by omega) h
          · split at h
            · cases h
            · simp only [Sum.inl.injEq, Prod.mk.injEq] at h
              omega

/-- While a line is read: the cursor, the line's own box, the labels so far. -/
structure SmS (w : World) (U : Nat) (s : ByteArray) (x0 : Lb) (W : World) (j V : Nat) (T : Int) (h : Bool) (r : Option (Value × List Lb)) : Prop where
  cur : Cur W U s j
  le : j ≤ s.size
  box : W.heap[w.heap.size]? = some (.cells #[.slice none 0 0, .float .f64 V, .int .i64 T, .bool h] 28)
  kept : Kept (fun k => k = U) w W
  row : ∀ v ls, r = some (v, ls) → W.ownsRow (w.heap.size + 1) 49 2 v (x0 :: ls).length (lbCells (x0 :: ls))
  bnd : ∀ v ls, r = some (v, ls) → ls.length ≤ 800 ∧ Sized (x0 :: ls)
theorem SmS.lt {w W : World} {U : Nat} {s : ByteArray} {x0 : Lb} {j V : Nat} {T : Int} {h : Bool} {r : Option (Value × List Lb)} (H : SmS w U s x0 W j V T h r) : w.heap.size < W.heap.size := (Array.getElem?_eq_some_iff.1 H.box).1
theorem SmS.move {w W W' : World} {U : Nat} {s : ByteArray} {x0 : Lb} {j j' V : Nat} {T : Int} {h : Bool} {r : Option (Value × List Lb)} (H : SmS w U s x0 W j V T h r) (hU : U < w.heap.size) (hk : Kept (fun k => k = U) W W') (hc : Cur W' U s j') (hj : j' ≤ s.size) : SmS w U s x0 W' j' V T h r :=
  ⟨hc, hj, hk.heap H.box (by omega), H.kept.trans hk (fun _ _ h => h), fun v ls e => hk.ownsRow (H.row v ls e) (fun k hk1 => by have := row_lo (H.row v ls e) k hk1; omega), H.bnd⟩
theorem SmS.below {w W W' : World} {U : Nat} {s : ByteArray} {x0 : Lb} {j V : Nat} {T : Int} {h : Bool} {r : Option (Value × List Lb)} (H : SmS w U s x0 W j V T h r) (hb : Below W.heap.size W W') : SmS w U s x0 W' j V T h r :=
  ⟨H.cur.below hb H.cur.lt, H.le, (hb.block _ H.lt).trans H.box, H.kept.below hb, fun v ls e => row_below (H.row v ls e) hb, H.bnd⟩
theorem SmS.setV {w W : World} {U : Nat} {s : ByteArray} {x0 : Lb} {j V : Nat} {T : Int} {h : Bool} {r : Option (Value × List Lb)} (H : SmS w U s x0 W j V T h r) (hU : U < w.heap.size) (V' : Nat) : SmS w U s x0 (W.setCell ⟨w.heap.size, 1, none⟩ (.float .f64 V')) j V' T h r :=
  ⟨(Below.heap_setCell W ⟨w.heap.size, 1, none⟩ _ U (fun e => by have : U = w.heap.size := e; omega)).trans H.cur, H.le, setOf H.box _, H.kept.setCell (p := ⟨w.heap.size, 1, none⟩) (fun e => absurd e (Nat.lt_irrefl _)) _, fun v ls e => ((Kept.refl (fun k => k = w.heap.size) W).setCell (p := ⟨w.heap.size, 1, none⟩) (fun _ => rfl) _).ownsRow (H.row v ls e) (fun k hk1 => by have := row_lo (H.row v ls e) k hk1; omega), H.bnd⟩
theorem SmS.setT {w W : World} {U : Nat} {s : ByteArray} {x0 : Lb} {j V : Nat} {T : Int} {h : Bool} {r : Option (Value × List Lb)} (H : SmS w U s x0 W j V T h r) (hU : U < w.heap.size) (T' : Int) : SmS w U s x0 (W.setCell ⟨w.heap.size, 2, none⟩ (.int .i64 T')) j V T' h r :=
  ⟨(Below.heap_setCell W ⟨w.heap.size, 2, none⟩ _ U (fun e => by have : U = w.heap.size := e; omega)).trans H.cur, H.le, setOf H.box _, H.kept.setCell (p := ⟨w.heap.size, 2, none⟩) (fun e => absurd e (Nat.lt_irrefl _)) _, fun v ls e => ((Kept.refl (fun k => k = w.heap.size) W).setCell (p := ⟨w.heap.size, 2, none⟩) (fun _ => rfl) _).ownsRow (H.row v ls e) (fun k hk1 => by have := row_lo (H.row v ls e) k hk1; omega), H.bnd⟩
theorem SmS.setH {w W : World} {U : Nat} {s : ByteArray} {x0 : Lb} {j V : Nat} {T : Int} {h : Bool} {r : Option (Value × List Lb)} (H : SmS w U s x0 W j V T h r) (hU : U < w.heap.size) (h' : Bool) : SmS w U s x0 (W.setCell ⟨w.heap.size, 3, none⟩ (.bool h')) j V T h' r :=
  ⟨(Below.heap_setCell W ⟨w.heap.size, 3, none⟩ _ U (fun e => by have : U = w.heap.size := e; omega)).trans H.cur, H.le, setOf H.box _, H.kept.setCell (p := ⟨w.heap.size, 3, none⟩) (fun e => absurd e (Nat.lt_irrefl _)) _, fun v ls e => ((Kept.refl (fun k => k = w.heap.size) W).setCell (p := ⟨w.heap.size, 3, none⟩) (fun _ => rfl) _).ownsRow (H.row v ls e) (fun k hk1 => by have := row_lo (H.row v ls e) k hk1; omega), H.bnd⟩
/-- The first label is laid. -/
theorem SmS.lit {w W : World} {U : Nat} {s : ByteArray} {x0 : Lb} {j V : Nat} {T : Int} {h : Bool} (H : SmS w U s x0 W j V T h none) (hz : Sized [x0]) : SmS w U s x0 (W.alloc (.cells #[.string x0.1, .string x0.2] 49 (0, 0))) j V T h (some (.slice (some ⟨W.heap.size, 0, none⟩) 1 1, [])) := by
  have H1 := H.below ((Below.refl _ _).alloc (Nat.le_refl _) (.cells #[.string x0.1, .string x0.2] 49 (0, 0)))
  refine ⟨H1.cur, H1.le, H1.box, H1.kept, fun v ls e => ?_, fun v ls e => ?_⟩
  · cases e
    exact ⟨rfl, Or.inr ⟨W.heap.size, 1, _, rfl, H.lt, heap_alloc_new W _, Nat.le_refl _, by unfold maxLen; decide, rfl, rfl⟩⟩
  · cases e
    exact ⟨Nat.zero_le _, hz⟩
/-- The box's cells. -/
def BoxX (W : World) (L V : Nat) (T : Int) (h : Bool) : Prop := W.cell? ⟨L, 0, none⟩ = some (.slice none 0 0) ∧ W.cell? ⟨L, 1, none⟩ = some (.float .f64 V) ∧ W.cell? ⟨L, 2, none⟩ = some (.int .i64 T) ∧ W.cell? ⟨L, 3, none⟩ = some (.bool h) ∧ W.frozen? ⟨L, 0, none⟩ = false ∧ W.frozen? ⟨L, 1, none⟩ = false ∧ W.frozen? ⟨L, 2, none⟩ = false ∧ W.frozen? ⟨L, 3, none⟩ = false
theorem SmS.x {w W : World} {U : Nat} {s : ByteArray} {x0 : Lb} {j V : Nat} {T : Int} {h : Bool} {r : Option (Value × List Lb)} (H : SmS w U s x0 W j V T h r) : BoxX W w.heap.size V T h :=
  ⟨by rw [cellOf H.box]; rfl, by rw [cellOf H.box]; rfl, by rw [cellOf H.box]; rfl, by rw [cellOf H.box]; rfl, frozenOf H.box, frozenOf H.box, frozenOf H.box, frozenOf H.box⟩

set_option maxRecDepth 100000 in
theorem res_line (tmps : Array Value) (b : Nat) (e : Int) (hp : tmps.getD 2 undef = .pointer (some ⟨b, 0, none⟩)) (h3 : tmps.getD 3 undef = .int .i64 e) (W : World) (v0 v1 v2 v3 : Value) (hb : W.heap[b]? = some (.cells #[v0, v1, v2, v3] 28 (0, 0))) :
    (results Tryz.f10 tmps).run Tryz.prog W = .ok (.tuple #[.agg #[v0, v1, v2, v3], .int .i64 e]) W := by
  rw [results_cell_tmp Tryz.results10]
  have hp' : tmps[2]?.getD undef = .pointer (some ⟨b, 0, none⟩) := by simpa using hp
  have h3' : tmps[3]?.getD undef = .int .i64 e := by simpa using h3
  have hc0 : W.cell? ⟨b, 0, none⟩ = some v0 := by simp [World.cell?, hb]
  have hc1 : W.cell? ⟨b, 1, none⟩ = some v1 := by simp [World.cell?, hb]
  have hc2 : W.cell? ⟨b, 2, none⟩ = some v2 := by simp [World.cell?, hb]
  have hc3 : W.cell? ⟨b, 3, none⟩ = some v3 := by simp [World.cell?, hb]
  simp [hp', h3', go_sem, hc0, hc1, hc2, hc3]

/-- What is answered of a line. -/
def SmpP (w : World) (U : Nat) (s : ByteArray) (R : LRes) (e : Ending) (w' : World) : Prop := match R with
  | .bad p er => (∃ a n c V T h, e = .returned (.tuple #[.agg #[.slice a n c, .float .f64 V, .int .i64 T, .bool h], .int .i64 er])) ∧ er ≠ 0 ∧ Cur w' U s p ∧ Kept (fun k => k = U) w w'
  | .ok ls V T h => ∃ a n c, e = .returned (.tuple #[.agg #[.slice a n c, .float .f64 V, .int .i64 T, .bool h], .int .i64 0]) ∧ w'.ownsRow w.heap.size 49 2 (.slice a n c) ls.length (lbCells ls) ∧ Cur w' U s s.size ∧ Kept (fun k => k = U) w w'
/-- The line's box is written anew as it was. -/
theorem SmS.again {w W : World} {U : Nat} {s : ByteArray} {x0 : Lb} {j V : Nat} {T : Int} {h : Bool} {r : Option (Value × List Lb)} (H : SmS w U s x0 W j V T h r) (hU : U < w.heap.size) (a b c d : Value) :
    ((((W.setCell ⟨w.heap.size, 0, none⟩ a).setCell ⟨w.heap.size, 1, none⟩ b).setCell ⟨w.heap.size, 2, none⟩ c).setCell ⟨w.heap.size, 3, none⟩ d).heap[w.heap.size]? = some (.cells #[a, b, c, d] 28 (0, 0)) ∧ Cur ((((W.setCell ⟨w.heap.size, 0, none⟩ a).setCell ⟨w.heap.size, 1, none⟩ b).setCell ⟨w.heap.size, 2, none⟩ c).setCell ⟨w.heap.size, 3, none⟩ d) U s j ∧ Kept (fun k => k = U) w ((((W.setCell ⟨w.heap.size, 0, none⟩ a).setCell ⟨w.heap.size, 1, none⟩ b).setCell ⟨w.heap.size, 2, none⟩ c).setCell ⟨w.heap.size, 3, none⟩ d) := by
  have k4 : Kept (fun k => k = w.heap.size) W ((((W.setCell ⟨w.heap.size, 0, none⟩ a).setCell ⟨w.heap.size, 1, none⟩ b).setCell ⟨w.heap.size, 2, none⟩ c).setCell ⟨w.heap.size, 3, none⟩ d) := ((((Kept.refl (fun k => k = w.heap.size) W).setCell (p := ⟨w.heap.size, 0, none⟩) (fun _ => rfl) a).setCell (p := ⟨w.heap.size, 1, none⟩) (fun _ => rfl) b).setCell (p := ⟨w.heap.size, 2, none⟩) (fun _ => rfl) c).setCell (p := ⟨w.heap.size, 3, none⟩) (fun _ => rfl) d
  exact ⟨setOf (setOf (setOf (setOf H.box _) _) _) _, k4.heap H.cur (by omega), H.kept.trans k4 (fun i hi e => by omega)⟩
end Go.Proofs.YtfckdleahljdeaaGreatDoor
