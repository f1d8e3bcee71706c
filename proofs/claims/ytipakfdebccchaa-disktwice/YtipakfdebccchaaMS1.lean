/- The document's disk: an operation begins, whatever faults wait. -/
import Derived.Test.YtipakfdebccchaaMR6
namespace Go.Proofs.Ytipakfdebccchaa
open Go.RowKit Go.Maps Go.Sort

/-- The faults that wait on. -/
def qLeft (l : List (Int × Int)) : List (Int × Int) := l.filterMap fun x => if 0 < x.1 then some (x.1 - 1, x.2) else none
/-- The fault that strikes: 0 none, 2 the half, 1 another. -/
def qStep (st : Int) (x : Int × Int) : Int := if 0 < x.1 then st else if st = 0 then (if x.2 = 2 then 2 else 1) else st
def qStruck (l : List (Int × Int)) : Int := l.foldl qStep 0
theorem qStruck_take (l : List (Int × Int)) (k : Nat) (hk : k < l.length) : qStruck (l.take (k + 1)) = qStep (qStruck (l.take k)) l[k] := by
  unfold qStruck
  rw [List.take_succ_eq_append_getElem hk, List.foldl_append]
  rfl
theorem qLeft_take (l : List (Int × Int)) (k : Nat) (hk : k < l.length) : qLeft (l.take (k + 1)) = qLeft (l.take k) ++ (if 0 < l[k].1 then [(l[k].1 - 1, l[k].2)] else []) := by
  unfold qLeft
  rw [List.take_succ_eq_append_getElem hk, List.filterMap_append]
  congr 1
  by_cases h : 0 < l[k].1 <;> simp [h]
theorem qLeft_length (l : List (Int × Int)) : (qLeft l).length ≤ l.length := List.length_filterMap_le _ _
theorem qStruck_range (l : List (Int × Int)) : qStruck l = 0 ∨ qStruck l = 1 ∨ qStruck l = 2 := by
  unfold qStruck
  have : ∀ (l : List (Int × Int)) (st : Int), (st = 0 ∨ st = 1 ∨ st = 2) → (l.foldl qStep st = 0 ∨ l.foldl qStep st = 1 ∨ l.foldl qStep st = 2) := by
    intro l
    induction l with
    | nil => exact fun st h => h
    | cons a t ih =>
      intro st h
      refine ih _ ?_
      unfold qStep
      split
      · exact h
      · split
        · split <;> simp
        · exact h
  exact this l 0 (Or.inl rfl)

theorem new_behind2 (w : World) (o' o : Obj) : ((w.alloc o').alloc o).heap[w.heap.size + 1]? = some o := by
  have h := heap_alloc_new (w.alloc o') o
  have e : (w.alloc o').heap.size = w.heap.size + 1 := by simp
  rw [e] at h
  exact h

/-- What a begun operation is refused by. -/
def rErr (stop struck : Int) : Int := if stop = 0 then 7 else if struck ≠ 0 then 6 else 0
def rHit (stop struck : Int) : Int := if stop = 0 then 0 else struck
def rStop (stop : Int) : Int := if 0 < stop then stop - 1 else stop

theorem ret_two2 {a b x y : Int} (h : a = b) (h' : x = y) : Ending.returned (.tuple #[.int .i64 a, .int .i64 x]) = .returned (.tuple #[.int .i64 b, .int .i64 y]) := by rw [h, h']

def RSt.begun (s : RSt) (qv : Value) : RSt := { s with cnt := s.cnt + 1, stop := rStop s.stop, qv := qv, faults := qLeft s.faults }

set_option maxRecDepth 100000 in
set_option maxHeartbeats 4000000 in
theorem refBegin_loop {w : World} {r : Nat} {s : RSt} (h : IsRef w r s) (hq : ∀ x, x ∈ s.faults → 0 ≤ x.1 ∧ x.1 ≤ 9223372036854775807) (hl : s.faults.length ≤ 1000000000) (h0 : 0 ≤ s.cnt) (h1 : s.cnt < 1000000000) (hs0 : -1 ≤ s.stop) (hs1 : s.stop ≤ 9223372036854775807) :
    Calls Try.prog 68 #[.pointer (some ⟨r, 0, none⟩)] w fun e w' => e = .returned (.tuple #[.int .i64 (rErr s.stop (qStruck s.faults)), .int .i64 (rHit s.stop (qStruck s.faults))]) ∧ ∃ qv, IsRef w' r (s.begun qv) ∧ KT (refS s.base) w w' := by
  obtain ⟨c0, c1, c2, c3, c4, c5, c6, c7, cf⟩ := h.at_.cells
  obtain ⟨qa, qc, hqv⟩ := slice_of_row h.rQ
  have HQ : Hid (∀ g, qa = some ⟨g, 0, none⟩ → ∀ k (hk : k < s.faults.length), g < w.heap.size ∧ g ≠ r ∧ w.cell? ⟨g, k * 2, none⟩ = some (.int .i64 s.faults[k].1) ∧ w.cell? ⟨g, k * 2 + 1, none⟩ = some (.int .i64 s.faults[k].2)) := fun g hg k hk => by
    have hb : s.qv.ownBlock = some g := by rw [hqv, hg]; rfl
    have hc := h.rQ.cells (g := g) hb
    have x0 := hc (k * 2 + 0) (.int .i64 s.faults[k].1) (flat_at rqCell 2 (fun _ => rfl) s.faults k hk 0 (by omega))
    have x1 := hc (k * 2 + 1) (.int .i64 s.faults[k].2) (flat_at rqCell 2 (fun _ => rfl) s.faults k hk 1 (by omega))
    rw [Addr.add_lit, Nat.zero_add] at x0 x1
    exact ⟨(h.rQ.lt g hb).2, fun e => h.at_.ne_row h.rQ (by decide) (e ▸ hb), x0, x1⟩
  have HG : Hid (0 < s.faults.length → ∃ g, qa = some ⟨g, 0, none⟩) := fun h0 => by
    obtain ⟨g, c, hg⟩ := (show ∃ g c, s.qv = .slice (some ⟨g, 0, none⟩) s.faults.length c by
      rcases h.rQ.2 with ⟨_, e0⟩ | ⟨g, cap, cur, e, _⟩
      · omega
      · exact ⟨g, cap, e⟩)
    rw [hqv] at hg
    cases hg
    exact ⟨g, rfl⟩
  rw [hqv] at c5
  have HA : Hid (RefAt w r s.cap s.fv s.dv s.kv s.pv (.slice qa s.faults.length qc) s.stop s.cnt) := by show RefAt _ _ _ _ _ _ _ _ _ _; rw [← hqv]; exact h.at_
  clear hqv
  have HW : Hid (∀ W, W = w.setCell ⟨r, 7, none⟩ (.int .i64 (s.cnt + 1)) → RefAt W r s.cap s.fv s.dv s.kv s.pv (.slice qa s.faults.length qc) s.stop (s.cnt + 1) ∧ (∀ g, qa = some ⟨g, 0, none⟩ → ∀ k (hk : k < s.faults.length), g < W.heap.size ∧ W.cell? ⟨g, k * 2, none⟩ = some (.int .i64 s.faults[k].1) ∧ W.cell? ⟨g, k * 2 + 1, none⟩ = some (.int .i64 s.faults[k].2)) ∧ Kept (fun k => k = r) w W) := fun W hW => by
    subst hW
    refine ⟨HA.out.set7 _, fun g hg k hk => ?_, (Kept.refl (fun k => k = r) w).setCell (p := ⟨r, 7, none⟩) (fun _ => rfl) _⟩
    obtain ⟨x0, x1, x2, x3⟩ := HQ.out g hg k hk
    refine ⟨by simpa [World.setCell] using x0, ?_, ?_⟩
    · rw [World.cell?_of_block (w := w) (a := ⟨g, k * 2, none⟩) (Below.heap_setCell w ⟨r, 7, none⟩ _ g x1)]; exact x2
    · rw [World.cell?_of_block (w := w) (a := ⟨g, k * 2 + 1, none⟩) (Below.heap_setCell w ⟨r, 7, none⟩ _ g x1)]; exact x3
  have HI : Hid (IsRef w r s) := h
  have HF : Hid (∀ x, x ∈ s.faults → 0 ≤ x.1 ∧ x.1 ≤ 9223372036854775807) := hq
  clear hq h
  go_enter Try.func68, Try.ntmps68
  go_wp2
  refine goOn (S := fun W => RefAt W r s.cap s.fv s.dv s.kv s.pv (.slice qa s.faults.length qc) s.stop (s.cnt + 1) ∧ (∀ g, qa = some ⟨g, 0, none⟩ → ∀ k (hk : k < s.faults.length), g < W.heap.size ∧ W.cell? ⟨g, k * 2, none⟩ = some (.int .i64 s.faults[k].1) ∧ W.cell? ⟨g, k * 2 + 1, none⟩ = some (.int .i64 s.faults[k].2)) ∧ Kept (fun k => k = r) w W) (HW.out _ rfl) ?_
  clear c0 c1 c2 c3 c4 c5 c6 c7 cf
  rintro W ⟨hR, hC, hK⟩
  have HC : Hid (∀ g, qa = some ⟨g, 0, none⟩ → ∀ k (hk : k < s.faults.length), g < W.heap.size ∧ W.cell? ⟨g, k * 2, none⟩ = some (.int .i64 s.faults[k].1) ∧ W.cell? ⟨g, k * 2 + 1, none⟩ = some (.int .i64 s.faults[k].2)) := hC
  clear hC
  have hRl := hR.lt
  obtain ⟨i103, hi103, hz103, hs103, hb103⟩ := info_parts info103
  go_loopw [4, 5, 6] (fun st lv i wr => ∃ k : Nat, k ≤ s.faults.length ∧ i = .int .i64 k ∧ st = .int .i64 (qStruck (s.faults.take k)) ∧ wr.ownsRow W.heap.size 79 2 lv (qLeft (s.faults.take k)).length (rqCells (qLeft (s.faults.take k))) ∧ Below W.heap.size W wr) (fun _ _ i _ => s.faults.length - (intOf i).toNat)
  case atStart => exact ⟨0, Nat.zero_le _, rfl, rfl, World.ownsRow_nil _ _ _ _, Below.refl _ _⟩
  case round =>
    obtain ⟨k, hk, rfl, rfl, hrow, hbel⟩ := hrel
    have hRr : RefAt wr r s.cap s.fv s.dv s.kv s.pv (.slice qa s.faults.length qc) s.stop (s.cnt + 1) := (hbel.block r hRl).trans hR
    obtain ⟨c0, c1, c2, c3, c4, c5, c6, c7, cf⟩ := hRr.cells
    by_cases hlt : k < s.faults.length
    · obtain ⟨g, rfl⟩ := HG.out (by omega)
      obtain ⟨hgl, x0, x1⟩ := HC.out g rfl k hlt
      have q0 := (hbel.cell (p := ⟨g, k * 2, none⟩) hgl).trans x0
      have q1 := (hbel.cell (p := ⟨g, k * 2 + 1, none⟩) hgl).trans x1
      obtain ⟨fa0, fa1⟩ := HF.out _ (List.getElem_mem hlt)
      obtain ⟨fa, hfa⟩ : ∃ fa, fa = s.faults[k].1 := ⟨_, rfl⟩
      obtain ⟨fk, hfk⟩ : ∃ fk, fk = s.faults[k].2 := ⟨_, rfl⟩
      have hxx : s.faults[k] = (fa, fk) := by rw [hfa, hfk]
      have HS : Hid (qStruck (s.faults.take (k + 1)) = qStep (qStruck (s.faults.take k)) (fa, fk)) := by
        show _ = _
        rw [← hxx]
        exact qStruck_take s.faults k hlt
      have HL : Hid (qLeft (s.faults.take (k + 1)) = qLeft (s.faults.take k) ++ (if 0 < fa then [(fa - 1, fk)] else [])) := by
        have := qLeft_take s.faults k hlt
        rw [hxx] at this
        exact this
      have hul : (qLeft (s.faults.take k)).length ≤ k := Nat.le_trans (qLeft_length _) (by simp; omega)
      have hst := qStruck_range (s.faults.take k)
      rw [← hfa] at q0 fa0 fa1
      rw [← hfk] at q1
      clear x0 x1 hxx hfa hfk
      generalize qStruck (s.faults.take k) = st at *
      generalize qLeft (s.faults.take k) = ql at *
      have hsz := hbel.size
      by_cases hp : 0 < fa
      · have e1 : qStep st (fa, fk) = st := by simp [qStep, hp]
        rw [e1] at HS
        rw [if_pos hp] at HL
        clear hst e1
        go_wp2_with (at_builtin; refine wpList_append_own_at _ rfl _ _ 39 rfl W.heap.size 79 i103 _ 2 16 Try.underlying39 hi103 hz103 hs103 hb103 rfl (by decide) _ ql.length (rqCells ql) rfl ((hrow.alloc _).alloc _) ⟨wr.heap.size + 1, 0, none⟩ 1 1 [.int .i64 (fa - 1), .int .i64 fk] rfl rfl (World.news_of_block (cs := #[.int .i64 (fa - 1), .int .i64 fk]) (t := 79) (fr := (0, 0)) (new_behind2 wr _ _)) (by simp [Value.oneCell']) (by unfold maxLen; omega) (by omega) (by simp; omega) ?_; intro v' w1 hown1 hgrow hnil hloc)
        go_roundw
        case rel =>
          refine ⟨k + 1, by omega, by go_num, by rw [HS.out], ?_, (hbel.alloc hsz _).alloc (by simp; omega) _ |>.grown hgrow (by simp; omega) (fun j hj => (hrow.lt j hj).1)⟩
          rw [HL.out, List.length_append, List.length_singleton, rqCells_snoc]
          exact hown1
        case measure => simp [intOf]; omega
      · have e0 : fa = 0 := by omega
        subst e0
        rw [if_neg hp, List.append_nil] at HL
        have HB : Hid (∀ o, Below W.heap.size W (wr.alloc o)) := fun o => hbel.alloc hsz o
        have HRW : Hid (∀ o, (wr.alloc o).ownsRow W.heap.size 79 2 _ ql.length (rqCells ql)) := fun o => hrow.alloc o
        rcases hst with rfl | hst
        · by_cases hf : fk = 2
          · subst hf
            go_wp2
            go_roundw
            case rel => exact ⟨k + 1, by omega, by go_num, by rw [HS.out]; rfl, by rw [HL.out]; exact HRW.out _, HB.out _⟩
            case measure => simp [intOf]; omega
          · have hf1 : decide (fk = 2) = false := decide_eq_false hf
            have hf2 : (fk == 2) = false := beq_eq_false_iff_ne.2 hf
            have e1 : qStep 0 (0, fk) = 1 := by simp [qStep, hf]
            rw [e1] at HS
            clear e1
            go_wp2
            go_roundw
            case rel => exact ⟨k + 1, by omega, by go_num, by rw [HS.out], by rw [HL.out]; exact HRW.out _, HB.out _⟩
            case measure => simp [intOf]; omega
        · rcases hst with rfl | rfl
          all_goals
            go_wp2
            go_roundw
            case rel => exact ⟨k + 1, by omega, by go_num, by rw [HS.out]; rfl, by rw [HL.out]; exact HRW.out _, HB.out _⟩
            case measure => simp [intOf]; omega
    · have e : k = s.faults.length := by omega
      subst e
      rw [List.take_length] at hrow
      rw [List.take_length]
      have hst := qStruck_range s.faults
      obtain ⟨la, lc, hlv⟩ := slice_of_row hrow
      subst hlv
      have HE : Hid (∀ w2 st', RefAt w2 r s.cap s.fv s.dv s.kv s.pv (.slice la (qLeft s.faults).length lc) st' (s.cnt + 1) → st' = rStop s.stop → Kept (fun k => k = r) wr w2 → ∃ qv, IsRef w2 r (s.begun qv) ∧ KT (refS s.base) w w2) := fun w2 st' hR2 he hk2 => by
        have h := HI.out
        have k : Kept (fun k => k = r) w w2 := (hK.below hbel).trans hk2 (fun _ _ e => e)
        have nor : ∀ {base n size : Nat} {e : TypeId} {v : Value} {xs : List Value}, w.ownsRow base e size v n xs → e ≠ 41 → ∀ b, v.ownBlock = some b → ¬ (b = r) := fun ho he b hb e => h.at_.ne_row ho he (e ▸ hb)
        refine ⟨_, ⟨h.lo, by rw [he] at hR2; exact hR2, k.ownsRow h.rF (nor h.rF (by decide)), k.ownsRow h.rD (nor h.rD (by decide)), k.ownsRow h.rK (nor h.rK (by decide)), k.ownsRow h.rP (nor h.rP (by decide)), row_base (hk2.ownsRow hrow (fun b hb e => ?_)) (Nat.le_trans h.room hK.size), fun x hx => (h.bytes x hx).kept k (fun b ⟨cs, fr, e1⟩ e2 => ?_), h.sep.of k.size rfl rfl⟩, h.at_.kt h.lo k⟩
        · have := (hrow.lt b hb).1
          omega
        · subst e2
          have := h.at_
          unfold RefAt at this
          rw [this] at e1
          simp at e1
      have HK1 : Hid (Kept (fun k => k = r) wr (wr.setCell ⟨r, 5, none⟩ (.slice la (qLeft s.faults).length lc))) := (Kept.refl (fun k => k = r) wr).setCell (p := ⟨r, 5, none⟩) (fun _ => rfl) _
      have HR1 : Hid (RefAt (wr.setCell ⟨r, 5, none⟩ (.slice la (qLeft s.faults).length lc)) r s.cap s.fv s.dv s.kv s.pv (.slice la (qLeft s.faults).length lc) s.stop (s.cnt + 1)) := hRr.set5 _
      obtain ⟨st, hst0⟩ : ∃ st, st = qStruck s.faults := ⟨_, rfl⟩
      have HT : Hid (st = qStruck s.faults) := hst0
      rw [← hst0] at hst
      rw [← hst0]
      clear hst0
      rcases Int.lt_trichotomy s.stop 0 with hs | hs | hs
      · have hs' : s.stop = -1 := by omega
        rw [hs'] at c6
        rcases hst with rfl | rfl | rfl
        all_goals
          go_wp2
          go_ret2
          exact ⟨ret_two2 (by rw [← HT.out]; simp [rErr, hs']) (by rw [← HT.out]; simp [rHit, hs']), HE.out _ _ HR1.out (by simp [rStop, hs']) HK1.out⟩
      · rw [hs] at c6
        go_wp2
        go_ret2
        exact ⟨ret_two2 (by simp [rErr, hs]) (by simp [rHit, hs]), HE.out _ _ HR1.out (by simp [rStop, hs]) HK1.out⟩
      · have hne : s.stop ≠ 0 := by omega
        have HK2 : Hid (Kept (fun k => k = r) wr ((wr.setCell ⟨r, 5, none⟩ (.slice la (qLeft s.faults).length lc)).setCell ⟨r, 6, none⟩ (.int .i64 (s.stop - 1)))) := HK1.out.setCell (p := ⟨r, 6, none⟩) (fun _ => rfl) _
        have HR2 : Hid (RefAt ((wr.setCell ⟨r, 5, none⟩ (.slice la (qLeft s.faults).length lc)).setCell ⟨r, 6, none⟩ (.int .i64 (s.stop - 1))) r s.cap s.fv s.dv s.kv s.pv (.slice la (qLeft s.faults).length lc) (s.stop - 1) (s.cnt + 1)) := HR1.out.set6 _
        rcases hst with rfl | rfl | rfl
        all_goals
          go_wp2
          go_ret2
          exact ⟨ret_two2 (by rw [← HT.out]; simp [rErr, hne]) (by rw [← HT.out]; simp [rHit, hne]), HE.out _ _ HR2.out (by simp [rStop, hs]) HK2.out⟩

end Go.Proofs.Ytipakfdebccchaa
