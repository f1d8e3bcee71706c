/- The document's With; the program's says the same of a set. -/
import Derived.Test.YtobkomfeojhhbaaDoorLz
import Derived.Test.YtobkomfeojhhbaaDoorLw
namespace Go.Proofs.YtobkomfeojhhbaaDoor
open Go.RowKit Go.Maps

theorem TextsAt.lone {w : World} {g : Nat} {x : ByteArray} {t : TypeId} {fr : Nat × Nat} (h : w.heap[g]? = some (.cells #[.string x] t fr)) (hx : x.size ≤ maxLen) : TextsAt w (.slice (some ⟨g, 0, none⟩) 1 1) [x] := by
  refine ⟨some ⟨g, 0, none⟩, 1, rfl, ⟨Nat.le_refl _, by decide⟩, fun k hk => ?_⟩
  have : k = 0 := by simpa using hk
  subst this
  exact ⟨g, 0, rfl, (Array.getElem?_eq_some_iff.1 h).1, World.news_of_block h 0 (.string x) rfl, hx⟩
def refWithL (ls : List Lb) (n v : ByteArray) : List Lb := if v.toList.isEmpty = true then chosenL ls [n] false else putL (chosenL ls [n] false) (n, v)

set_option maxRecDepth 100000 in
set_option maxHeartbeats 2000000 in
theorem refWith_any (u : Value) (ls : List Lb) (n v : ByteArray) (w : World) (h : LabsAt w u ls) (hl : ls.length ≤ 900) (hn : n.size ≤ maxLen) :
    Calls Tryd.prog 29 #[u, .string n, .string v] w fun e w' => ∃ v', e = .returned v' ∧ w'.ownsRow w.heap.size 51 2 v' (refWithL ls n v).length (lbCells (refWithL ls n v)) ∧ Below w.heap.size w w' := by
  obtain ⟨a, c, rfl, -, -⟩ := id h
  have hb0 : Below w.heap.size w (w.alloc (.cells #[.string n] 9 (0, 0))) := (Below.refl _ _).alloc (Nat.le_refl _) _
  have hbut := refBut_any _ _ ls [n] (w.alloc (.cells #[.string n] 9 (0, 0))) (h.below hb0) hl (TextsAt.lone (heap_alloc_new w _) hn)
  have hcl := chosenL_length ls [n] false
  have HW : Hid (refWithL ls n v = if v.toList.isEmpty = true then chosenL ls [n] false else putL (chosenL ls [n] false) (n, v)) := rfl
  have HB0 : Hid (Below w.heap.size w (w.alloc (.cells #[.string n] 9 (0, 0)))) := hb0
  generalize chosenL ls [n] false = lb at *
  clear h hb0
  cases hv0 : v.toList.isEmpty
  · have hv1 : ¬ v.toList = [] := fun e => by rw [e] at hv0; cases hv0
    have HW' : Hid (refWithL ls n v = putL lb (n, v)) := by show _ = _; rw [HW.out, hv0]; simp
    have HP : Hid (∀ V W, LabsAt W V lb → Calls Tryd.prog 49 #[V, .agg #[.string n, .string v]] W fun e w' => ∃ v', e = .returned v' ∧ w'.ownsRow W.heap.size 51 2 v' (putL lb (n, v)).length (lbCells (putL lb (n, v))) ∧ Below W.heap.size W w') := fun V W hV => put_any V lb (n, v) W hV (by omega)
    go_enter Tryd.func29, Tryd.ntmps29
    go_wp2_with (first
      | (go_at_call 23; refine hbut.mono ?_; clear hbut; rintro e w1 ⟨v1, rfl, hr1, hb1⟩; obtain ⟨a1, c1, rfl⟩ := slice_of_row hr1; have HL1 : Hid (LabsAt w1 (.slice a1 lb.length c1) lb) := LabsAt.of_row hr1; have HB1 : Hid (Below w.heap.size w w1) := HB0.out.trans (hb1.mono HB0.out.size); clear hr1 hb1)
      | (go_at_call 49; refine (HP.out _ _ HL1.out).mono ?_; rintro e w2 ⟨v2, rfl, hr2, hb2⟩; obtain ⟨a2, c2, rfl⟩ := slice_of_row hr2))
    go_ret
    refine ⟨_, rfl, ?_, HB1.out.trans (hb2.mono HB1.out.size)⟩
    rw [HW'.out]
    exact row_mono hr2 HB1.out.size
  · have hv1 : v.toList = [] := by simpa using hv0
    have HW' : Hid (refWithL ls n v = lb) := by show _ = _; rw [HW.out, hv0]; simp
    go_enter Tryd.func29, Tryd.ntmps29
    go_wp2_with (go_at_call 23; refine hbut.mono ?_; clear hbut; rintro e w1 ⟨v1, rfl, hr1, hb1⟩; obtain ⟨a1, c1, rfl⟩ := slice_of_row hr1)
    go_ret
    refine ⟨_, rfl, ?_, HB0.out.trans (hb1.mono HB0.out.size)⟩
    rw [HW'.out]
    exact row_mono hr1 HB0.out.size

/-- Of a set the two are one. -/
def notN (n : ByteArray) (x : Lb) : Bool := !(x.1.toList == n.toList)
theorem chosen_one (ls : List Lb) (n : ByteArray) : chosenL ls [n] false = ls.filter (notN n) := by
  unfold chosenL
  congr 1
  funext x
  unfold notN
  have h1 : Lib.containsS [n] x.1 = (x.1.toList == n.toList) := by
    rw [Bool.eq_iff_iff, Lib.containsS_iff, beq_iff_eq, List.mem_singleton]
    exact ⟨fun e => by rw [e], toList_inj⟩
  rw [h1]
  cases (x.1.toList == n.toList) <;> rfl
theorem foldW_placed (n v : ByteArray) (ls : List Lb) : ∀ o, ls.foldl (stepW n v) (o, true) = (o ++ ls.filter (notN n), true) := by
  induction ls with
  | nil => intro o; simp
  | cons x t ih =>
    intro o
    rw [List.foldl_cons, List.filter_cons]
    cases h1 : (x.1.toList == n.toList)
    · have h3 : stepW n v (o, true) x = (o ++ [x], true) := by
        unfold stepW
        simp [h1]
      rw [h3, ih]
      simp [notN, h1]
    · have h3 : stepW n v (o, true) x = (o, true) := by
        unfold stepW
        simp [h1]
      rw [h3, ih]
      simp [notN, h1]
def finW (n v : ByteArray) (r : List Lb × Bool) : List Lb := if r.2 = true then r.1 else r.1 ++ [(n, v)]
theorem foldW_put (n v : ByteArray) (ls : List Lb) (hs : Strict ls) : ∀ o, finW n v (ls.foldl (stepW n v) (o, false)) = o ++ putL (ls.filter (notN n)) (n, v) := by
  induction ls with
  | nil => intro o; simp [finW, putL]
  | cons x t ih =>
    intro o
    have hst : Strict t := (List.pairwise_cons.1 hs).2
    rw [List.foldl_cons]
    cases h4 : lessL n x
    · cases h1 : (x.1.toList == n.toList)
      · have h3 : stepW n v (o, false) x = (o ++ [(n, v)] ++ [x], true) := by
          unfold stepW
          unfold lessL at h4
          simp [h1, h4]
        rw [h3, foldW_placed]
        simp [finW, putL, notN, h1, h4]
      · have h3 : stepW n v (o, false) x = (o ++ [(n, v)], true) := by
          unfold stepW
          unfold lessL at h4
          simp [h1, h4]
        have hall : ∀ y ∈ t.filter (notN n), lessL n y = false := fun y hy => by
          have h5 := (List.pairwise_cons.1 hs).1 y (List.mem_filter.1 hy).1
          rw [beq_iff_eq] at h1
          rw [h1] at h5
          rw [Bool.eq_false_iff]
          intro h6
          exact lt_asymm' h5 ((less_iff n y).1 h6)
        have hput : putL (t.filter (notN n)) (n, v) = (n, v) :: t.filter (notN n) := by
          unfold putL
          cases ht : t.filter (notN n) with
          | nil => simp
          | cons y r =>
            have h7 := hall y (by rw [ht]; exact List.mem_cons_self)
            simp [h7]
        rw [h3, foldW_placed]
        have hf : (x :: t).filter (notN n) = t.filter (notN n) := by simp [notN, h1]
        rw [hf, hput]
        simp [finW]
    · have h1 : (x.1.toList == n.toList) = false := by
        rw [beq_eq_false_iff_ne]
        intro e
        have h5 := (less_iff n x).1 h4
        rw [e] at h5
        exact List.lt_irrefl _ h5
      have h3 : stepW n v (o, false) x = (o ++ [x], false) := by
        unfold stepW
        unfold lessL at h4
        simp [h1, h4]
      rw [h3, ih hst]
      simp [putL, notN, h1, h4]
theorem withL_ref {ls : List Lb} (hs : Strict ls) (n v : ByteArray) : withL ls n v = refWithL ls n v := by
  unfold refWithL
  rw [chosen_one]
  have e : withL ls n v = finW n v (ls.foldl (stepW n v) ([], v.toList.isEmpty)) := rfl
  rw [e]
  cases v.toList.isEmpty
  · rw [foldW_put n v ls hs]
    simp
  · rw [foldW_placed]
    simp [finW]

end Go.Proofs.YtobkomfeojhhbaaDoor
