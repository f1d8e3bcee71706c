/- Texts that belong together. -/
import Derived.Test.YtdadagbkkaeejaaGreatDoorML5
import Derived.OwnWalk
import Derived.Laws.MakeOwn
/- Sets of labels, as lists: what the document's New makes, and what a sort makes. -/
namespace Go.Proofs.YtdadagbkkaeejaaGreatDoor

def live (ls : List Lb) : List Lb := ls.filter fun x => !x.2.toList.isEmpty
def names (ls : List Lb) : List (List UInt8) := ls.map fun x => x.1.toList
theorem names_perm {l m : List Lb} (h : l.Perm m) : (names l).Nodup ↔ (names m).Nodup := (h.map fun x : Lb => x.1.toList).nodup_iff
def stepP (r : List Lb × Bool) (x : Lb) : List Lb × Bool := (putL r.1 x, r.2 || hasL r.1 x.1)

theorem fold_live (ls : List Lb) (r : List Lb × Bool) : ls.foldl stepN r = (live ls).foldl stepP r := by
  induction ls generalizing r with
  | nil => rfl
  | cons a t ih =>
    simp only [List.foldl_cons, live, List.filter_cons]
    cases h : a.2.toList.isEmpty
    · simp only [Bool.not_false, if_true, List.foldl_cons]
      rw [ih]
      have : stepN r a = stepP r a := by unfold stepN stepP; rw [if_neg (by rw [h]; simp)]
      rw [this]
      rfl
    · simp only [Bool.not_true, Bool.false_eq_true, if_false]
      rw [ih]
      have : stepN r a = r := by unfold stepN; rw [if_pos h]
      rw [this]
      rfl
theorem putL_perm (ls : List Lb) (x : Lb) : (putL ls x).Perm (x :: ls) := by
  unfold putL
  refine List.perm_middle.trans ?_
  rw [List.takeWhile_append_dropWhile]
theorem hasL_iff (ls : List Lb) (n : ByteArray) : hasL ls n = true ↔ n.toList ∈ names ls := by
  unfold hasL names
  rw [List.any_eq_true, List.mem_map]
  constructor
  · rintro ⟨x, hx, he⟩
    exact ⟨x, hx, by simpa using he⟩
  · rintro ⟨x, hx, he⟩
    exact ⟨x, hx, by simpa using he⟩
theorem lt_asymm' {a b : List UInt8} (h : a < b) : ¬ b < a := fun h' => List.lt_irrefl a (List.lt_trans h h')
theorem lt_of' {a b : List UInt8} (h : ¬ b < a) (hne : a ≠ b) : a < b := by
  rcases Classical.em (a < b) with h1 | h1
  · exact h1
  · exact absurd (List.le_antisymm (List.not_lt.1 h) (List.not_lt.1 h1)) hne
theorem less_iff (x : ByteArray) (y : Lb) : lessL x y = true ↔ y.1.toList < x.toList := by
  unfold lessL
  rw [bytesLess_eq, decide_eq_true_eq]

theorem sorted_putL {ls : List Lb} (h : SortedL ls) (x : Lb) : SortedL (putL ls x) := by
  unfold SortedL putL at *
  have hsp := List.takeWhile_append_dropWhile (p := lessL x.1) (l := ls)
  have h' := h
  rw [← hsp, List.pairwise_append] at h'
  obtain ⟨h1, h2, h3⟩ := h'
  have htake : ∀ a ∈ ls.takeWhile (lessL x.1), a.1.toList < x.1.toList := fun a ha => (less_iff _ _).1 (by
    have := List.all_takeWhile (p := lessL x.1) (l := ls)
    rw [List.all_eq_true] at this
    exact this a ha)
  have hdrop : ∀ b ∈ ls.dropWhile (lessL x.1), ¬ b.1.toList < x.1.toList := fun b hb => by
    cases hd : ls.dropWhile (lessL x.1) with
    | nil => rw [hd] at hb; cases hb
    | cons c r =>
      have hc : lessL x.1 c = false := by
        have := List.head?_dropWhile_not (lessL x.1) ls
        rw [hd] at this
        simpa using this
      have hc' : ¬ c.1.toList < x.1.toList := fun h => by
        rw [(less_iff _ _).2 h] at hc
        cases hc
      rw [hd] at hb h2
      rcases List.mem_cons.1 hb with rfl | hb'
      · exact hc'
      · have := (List.pairwise_cons.1 h2).1 b hb'
        intro hbx
        rcases Classical.em (c.1.toList = b.1.toList) with e | e
        · rw [e] at hc'; exact hc' hbx
        · exact hc' (List.lt_trans (lt_of' this e) hbx)
  rw [List.pairwise_append]
  refine ⟨h1, List.pairwise_cons.2 ⟨hdrop, h2⟩, fun a ha b hb => ?_⟩
  rcases List.mem_cons.1 hb with rfl | hb'
  · exact lt_asymm' (htake a ha)
  · exact h3 a ha b hb'

theorem fold_inv (xs : List Lb) : ∀ r : List Lb × Bool, SortedL r.1 → (r.2 = true ↔ ¬ (names r.1).Nodup) → ((xs.foldl stepP r).1.Perm (xs ++ r.1) ∧ SortedL (xs.foldl stepP r).1 ∧ ((xs.foldl stepP r).2 = true ↔ ¬ (names (xs.foldl stepP r).1).Nodup)) := by
  induction xs with
  | nil => intro r h1 h2; exact ⟨List.Perm.refl _, h1, h2⟩
  | cons a t ih =>
    intro r h1 h2
    rw [List.foldl_cons]
    have hp := putL_perm r.1 a
    have hn : (names (putL r.1 a)).Perm (a.1.toList :: names r.1) := hp.map _
    have := ih (stepP r a) (sorted_putL h1 a) (by
      show (r.2 || hasL r.1 a.1) = true ↔ ¬ (names (putL r.1 a)).Nodup
      rw [hn.nodup_iff, List.nodup_cons, Bool.or_eq_true, h2, hasL_iff]
      constructor
      · rintro (h | h) ⟨h3, h4⟩
        · exact h h4
        · exact h3 h
      · intro h
        rcases Classical.em (a.1.toList ∈ names r.1) with h3 | h3
        · exact Or.inr h3
        · exact Or.inl fun h4 => h ⟨h3, h4⟩)
    refine ⟨this.1.trans ?_, this.2⟩
    show (t ++ putL r.1 a).Perm (a :: t ++ r.1)
    exact (List.Perm.append_left t hp).trans List.perm_middle

theorem foldN_inv (ls : List Lb) : (foldN ls).1.Perm (live ls) ∧ SortedL (foldN ls).1 ∧ ((foldN ls).2 = true ↔ ¬ (names (live ls)).Nodup) := by
  unfold foldN
  rw [fold_live]
  have := fold_inv (live ls) ([], false) List.Pairwise.nil (by simp [names])
  refine ⟨by simpa using this.1, this.2.1, ?_⟩
  rw [this.2.2]
  have hp : ((live ls).foldl stepP ([], false)).1.Perm (live ls) := by simpa using this.1
  rw [names_perm hp]

theorem rl_strict {ls : List Lb} (h : rl ls = true) : ls.Pairwise fun x y => x.1.toList < y.1.toList := by
  have hr := (rl_iff ls).1 h
  rw [List.pairwise_iff_getElem]
  intro i j hi hj hij
  induction j with
  | zero => omega
  | succ j ih =>
    rcases Nat.lt_succ_iff_lt_or_eq.1 hij with h1 | h1
    · exact List.lt_trans (ih (by omega) h1) (hr j hj)
    · subst h1; exact hr i hj
theorem strict_nodup {ls : List Lb} (h : ls.Pairwise fun x y => x.1.toList < y.1.toList) : (names ls).Nodup := by
  unfold names List.Nodup
  rw [List.pairwise_map]
  exact h.imp fun h e => by rw [e] at h; exact List.lt_irrefl _ h
theorem nodup_strict {ls : List Lb} (h : SortedL ls) (hn : (names ls).Nodup) : ls.Pairwise fun x y => x.1.toList < y.1.toList := by
  unfold names List.Nodup at hn
  rw [List.pairwise_map] at hn
  unfold SortedL at h
  exact (h.and hn).imp fun ⟨h1, h2⟩ => lt_of' h1 h2
theorem rl_of_strict {ls : List Lb} (h : ls.Pairwise fun x y => x.1.toList < y.1.toList) : rl ls = true := by
  rw [rl_iff]
  intro k hk
  rw [List.pairwise_iff_getElem] at h
  exact h k (k + 1) (by omega) hk (by omega)
theorem rl_iff_nodup {ls : List Lb} (h : SortedL ls) : rl ls = true ↔ (names ls).Nodup := ⟨fun hr => strict_nodup (rl_strict hr), fun hn => rl_of_strict (nodup_strict h hn)⟩

theorem strict_unique : ∀ {l m : List Lb}, (l.Pairwise fun x y => x.1.toList < y.1.toList) → (m.Pairwise fun x y => x.1.toList < y.1.toList) → l.Perm m → l = m
  | [], m, _, _, hp => (List.Perm.nil_eq hp)
  | a :: l, [], _, _, hp => absurd hp.length_eq (by simp)
  | a :: l, b :: m, h1, h2, hp => by
    have e : a = b := by
      have ha : a ∈ b :: m := hp.mem_iff.1 (List.mem_cons_self ..)
      have hb : b ∈ a :: l := hp.mem_iff.2 (List.mem_cons_self ..)
      rcases List.mem_cons.1 ha with e | ha'
      · exact e
      · rcases List.mem_cons.1 hb with e | hb'
        · exact e.symm
        · exact absurd ((List.pairwise_cons.1 h1).1 b hb') (lt_asymm' ((List.pairwise_cons.1 h2).1 a ha'))
    subst e
    rw [strict_unique (List.pairwise_cons.1 h1).2 (List.pairwise_cons.1 h2).2 (List.perm_cons a |>.1 hp)]

/-- What New answers, by a sorted row of the labels that have a value. -/
theorem newR_sorted {ls s : List Lb} (hall : ls.all fairL = true) (hp : s.Perm (live ls)) (hs : SortedL s) : newR ls = if rl s = false then ([], 13) else if 64 < s.length then ([], 15) else (s, 0) := by
  obtain ⟨h1, h2, h3⟩ := foldN_inv ls
  have hn : (names s).Nodup ↔ (names (live ls)).Nodup := names_perm hp
  unfold newR
  rw [if_neg (by rw [hall]; simp)]
  by_cases hr : rl s = true
  · have hnd := hn.1 ((rl_iff_nodup hs).1 hr)
    have hf : (foldN ls).2 = false := by
      rw [Bool.eq_false_iff]
      intro h
      exact h3.1 h hnd
    have hnf : (names (foldN ls).1).Nodup := (names_perm h1).2 hnd
    have e : (foldN ls).1 = s := strict_unique (nodup_strict h2 hnf) (rl_strict hr) (h1.trans hp.symm)
    have hr2 : ¬ (rl s = false) := by rw [hr]; simp
    rw [hf, e, if_neg hr2]
    rfl
  · have hr' : rl s = false := by simpa using hr
    have hf : (foldN ls).2 = true := h3.2 fun h => hr ((rl_iff_nodup hs).2 (hn.2 h))
    rw [hf, if_pos rfl, if_pos hr']

end Go.Proofs.YtdadagbkkaeejaaGreatDoor

/- The program's New. -/
namespace Go.Proofs.YtdadagbkkaeejaaGreatDoor
open Go.RowKit Go.Maps

theorem live_succ (ls : List Lb) (k : Nat) (hk : k < ls.length) : live (ls.take (k + 1)) = live (ls.take k) ++ (if ls[k].2.toList.isEmpty = true then [] else [ls[k]]) := by
  unfold live
  rw [List.take_succ_eq_append_getElem hk, List.filter_append]
  congr 1
  cases h : ls[k].2.toList.isEmpty <;> simp [h]
theorem heap_two (w : World) (o1 o2 : Obj) : ((w.alloc o1).alloc o2).heap[w.heap.size + 1]? = some o2 := by
  have := heap_alloc_new (w.alloc o1) o2
  rw [World.size_alloc] at this
  exact this
theorem live_length (ls : List Lb) : (live ls).length ≤ ls.length := List.length_filter_le _ _
theorem row_not_nil {_w : World} {_base _size n m : Nat} {_e : TypeId} {v v' : Value} {_xs : List Value} (h : v' = .slice none 0 0 ↔ v = .slice none 0 0 ∧ m = n) (hv : v ≠ .slice none 0 0) : v' ≠ .slice none 0 0 := fun e => hv (h.1 e).1

set_option maxRecDepth 100000 in
set_option maxHeartbeats 4000000 in
theorem new_any (v : Value) (ls : List Lb) (w : World) (h : LabsAt w v ls) (hl : ls.length ≤ 900) (hsz : Sized ls) (hT : Tabs w) :
    Calls Tryz.prog 44 #[v] w fun e w' => ∃ v', e = .returned (.tuple #[v', .int .i64 (newR ls).2]) ∧ w'.ownsRow w.heap.size 62 2 v' (newR ls).1.length (lbCells (newR ls).1) ∧ Below w.heap.size w w' := by
  obtain ⟨a, c, rfl, hlc, -⟩ := id h
  have HC : Hid (LabsAt w (.slice a ls.length c) ls) := h
  have HS : Hid (Sized ls) := hsz
  have HT : Hid (Tabs w) := hT
  obtain ⟨i0, hi0, hz0, hz1, hz2⟩ := info_parts infoLb
  clear h hsz hT
  go_enter Tryz.func44, Tryz.ntmps44
  go_wp2
  go_loopw [11] (fun i wr => ∃ k : Nat, k ≤ ls.length ∧ i = .int .i64 k ∧ Hid (Fair ls k) ∧ Hid (Below w.heap.size w wr)) (fun i _ => ls.length - (intOf i).toNat)
  case atStart => exact ⟨0, Nat.zero_le _, rfl, fun _ _ h => absurd h (Nat.not_lt_zero _), Below.refl _ _⟩
  case round =>
    obtain ⟨k, hk, rfl, hall, hbel⟩ := hrel
    by_cases hlt : k < ls.length
    · obtain ⟨b, o, rfl, hone⟩ := HC.out.one k hlt
      obtain ⟨h0, h1⟩ := hone wr hbel.out
      clear hone
      obtain ⟨x, hx⟩ : ∃ x, x = ls[k].1 := ⟨_, rfl⟩
      obtain ⟨y, hy⟩ : ∃ y, y = ls[k].2 := ⟨_, rfl⟩
      rw [← hx] at h0
      rw [← hy] at h1
      have HX : Hid (ls[k] = (x, y)) := by show _ = _; rw [hx, hy]
      have hb2 : Below w.heap.size w (wr.alloc (.cells #[.string x, .string y] 62 (0, 0))) := hbel.out.alloc hbel.out.size _
      have hf := rightLabel_any (x, y) (wr.alloc (.cells #[.string x, .string y] 62 (0, 0))) (by rw [hy]; exact (HS.out k hlt).2) (HT.out.below hb2)
      have HB2 : Hid (∀ w', Below (wr.alloc (.cells #[.string x, .string y] 62 (0, 0))).heap.size (wr.alloc (.cells #[.string x, .string y] 62 (0, 0))) w' → Below w.heap.size w w') := fun w' hb => hb2.trans (hb.mono hb2.size)
      clear hx hy hb2
      cases hfr : fairL (x, y)
      · have HN : Hid (newR ls = ([], 2)) := by
          show _ = _
          unfold newR
          rw [if_pos (not_all hlt (by rw [HX.out]; exact hfr))]
        rw [hfr] at hf
        go_wp2_with (go_at_call 60; refine hf.mono ?_; rintro e w1 ⟨rfl, hb1⟩)
        go_ret2
        refine ⟨.slice none 0 0, by rw [HN.out]; rfl, ?_, HB2.out _ hb1⟩
        rw [HN.out]
        exact World.ownsRow_nil _ _ _ _
      · rw [hfr] at hf
        go_wp2_with (go_at_call 60; refine hf.mono ?_; rintro e w1 ⟨rfl, hb1⟩)
        go_roundw
        case rel => exact ⟨k + 1, by omega, by go_num, fun i hi hlt' => by
          rcases Nat.lt_succ_iff_lt_or_eq.1 hlt' with h1 | h1
          · exact hall.out i hi h1
          · subst h1; rw [HX.out]; exact hfr, HB2.out _ hb1⟩
        case measure => simp [intOf]; omega
    · have HA : Hid (ls.all fairL = true) := by
        have e : k = ls.length := by omega
        subst e
        exact hall.out.all
      clear hall
      have hb0 := hbel.out
      have hs0 := hb0.size
      clear hbel
      obtain ⟨w0, hmk, hown0, hgrow0⟩ := run_make_own (P := Tryz.prog) (w := wr) w.heap.size 32 62 i0 _ 2 Tryz.underlying32 hi0 hz0 hz1 .i64 .i64 (min ls.length 65) (by rw [hz2]; omega) (by unfold maxLen; omega) hs0
      have ecap : ((min ls.length 65 : Nat) : Int) = min (ls.length : Int) 65 := by omega
      rw [ecap] at hmk
      have hb1 : Below w.heap.size w w0 := hb0.grown hgrow0 hs0 (fun j hj => by cases hj)
      have hne0 : (Value.slice (some ⟨wr.heap.size, 0, none⟩) 0 (min ls.length 65)) ≠ .slice none 0 0 := by simp
      have HR0 : Hid (w0.ownsRow w.heap.size 62 2 (.slice (some ⟨wr.heap.size, 0, none⟩) 0 (min ls.length 65)) 0 []) := hown0
      have HB1 : Hid (Below w.heap.size w w0) := hb1
      clear hown0 hgrow0 hb1 hb0 ecap
      go_wp2
      go_loopw [6, 25] (fun vo i wr => ∃ j : Nat, j ≤ ls.length ∧ i = .int .i64 j ∧ Hid (vo ≠ .slice none 0 0) ∧ Hid (wr.ownsRow w.heap.size 62 2 vo (live (ls.take j)).length (lbCells (live (ls.take j)))) ∧ Hid (Below w.heap.size w wr)) (fun _ i _ => ls.length - (intOf i).toNat)
      case atStart => exact ⟨0, Nat.zero_le _, rfl, hne0, HR0, HB1⟩
      case round =>
        clear HR0 HB1 hmk hne0
        obtain ⟨j, hj, rfl, hne, hrow, hbel⟩ := hrel
        by_cases hlt2 : j < ls.length
        · obtain ⟨b, o, rfl, hone⟩ := HC.out.one j hlt2
          obtain ⟨h0, h1⟩ := hone _ hbel.out
          clear hone
          obtain ⟨x, hx⟩ : ∃ x, x = ls[j].1 := ⟨_, rfl⟩
          obtain ⟨y, hy⟩ : ∃ y, y = ls[j].2 := ⟨_, rfl⟩
          rw [← hx] at h0
          rw [← hy] at h1
          have HF : Hid (live (ls.take (j + 1)) = live (ls.take j) ++ (if y.toList.isEmpty = true then [] else [(x, y)])) := by
            show _ = _
            rw [live_succ ls j hlt2, hx, hy]
          have hll : (live (ls.take j)).length ≤ j := Nat.le_trans (live_length _) (by simp; omega)
          clear hx hy
          obtain ⟨av, cv, hvo⟩ := slice_of_row hrow.out
          generalize live (ls.take j) = lv at *
          have hb2 := hbel.out
          have hs2 := hb2.size
          cases hy0 : y.toList.isEmpty
          · have hy1 : ¬ y.toList = [] := fun e => by rw [e] at hy0; cases hy0
            have HF' : Hid (live (ls.take (j + 1)) = lv ++ [(x, y)]) := by
              show _ = _
              rw [HF.out, if_neg (by rw [hy0]; simp)]
            clear HF
            subst hvo
            have hh2 := heap_two wr (.cells #[.string x, .string y] 62 (0, 0)) (.cells #[.string x, .string y] 62 (0, 0))
            go_wp2_with (at_builtin; refine wpList_append_labs _ rfl _ _ rfl w.heap.size (.slice av lv.length cv) lv.length (lbCells lv) rfl ((hrow.out.alloc _).alloc _) _ [(x, y)] rfl (LabsAt.lone hh2) (by simp; omega) (by simp; omega) ?_; intro v' w1 hr1 hg1 _)
            go_roundw
            case rel =>
              refine ⟨j + 1, by omega, by go_num, fun e => ?_, ?_, ?_⟩
              · obtain ⟨a9, c9, e9⟩ := slice_of_row hr1
                rw [e9] at e
                simp at e
              · have e9 : lbCells (live (ls.take (j + 1))) = lbCells lv ++ lbCells [(x, y)] := by rw [HF'.out, lbCells_append]
                have e8 : (live (ls.take (j + 1))).length = lv.length + [(x, y)].length := by rw [HF'.out, List.length_append]
                show World.ownsRow _ _ _ _ _ _ _
                rw [e9, e8]
                exact hr1
              · have h9 : Below w.heap.size w ((wr.alloc (.cells #[.string x, .string y] 62 (0, 0))).alloc (.cells #[.string x, .string y] 62 (0, 0))) := (hb2.alloc hs2 _).alloc (by simp; omega) _
                exact below_grown h9 (row_lo hrow.out) hg1
            case measure => simp [intOf]; omega
          · have hy1 : y.toList = [] := by simpa using hy0
            have HF' : Hid (live (ls.take (j + 1)) = lv) := by
              show _ = _
              rw [HF.out, if_pos hy0, List.append_nil]
            clear HF
            subst hvo
            have HB : Hid (∀ o, Below w.heap.size w (wr.alloc o)) := fun o => hb2.alloc hs2 o
            have HRO : Hid (∀ o, (wr.alloc o).ownsRow w.heap.size 62 2 (.slice av lv.length cv) lv.length (lbCells lv)) := fun o => hrow.out.alloc o
            go_wp2
            go_roundw
            case rel => exact ⟨j + 1, by omega, by go_num, hne, by show World.ownsRow _ _ _ _ _ _ _; rw [HF'.out]; exact HRO.out _, HB.out _⟩
            case measure => simp [intOf]; omega
        · have hrow' := hrow.out
          rw [List.take_of_length_le (by omega)] at hrow'
          have hll : (live ls).length ≤ ls.length := live_length ls
          obtain ⟨av, cv, hvo⟩ := slice_of_row hrow'
          have hb2 := hbel.out
          have hs2 := hb2.size
          have hsort := sort_any _ (live ls) wr w.heap.size hrow' hne.out (by omega)
          have HSP : Hid (∀ s : List Lb, s.Perm (live ls) → SortedL s → newR ls = if rl s = false then ([], 13) else if 64 < s.length then ([], 15) else (s, 0)) := fun s h1 h2 => newR_sorted HA.out h1 h2
          have HPL : Hid (∀ s : List Lb, s.Perm (live ls) → s.length = (live ls).length) := fun s h1 => h1.length_eq
          generalize live ls = lv at *
          clear hrow hbel hne hrow' HC HS HT
          subst hvo
          go_wp2_with (first
            | (go_at_call 61; refine hsort.mono ?_; rintro e w1 ⟨rfl, s, hp, hso, hr1, hb1⟩; obtain ⟨HE, hlen⟩ : Hid (newR ls = if rl s = false then ([], 13) else if 64 < s.length then ([], 15) else (s, 0)) ∧ s.length = lv.length := ⟨HSP.out s hp hso, HPL.out s hp⟩; have hri := rising_any _ s w1 (LabsAt.of_row hr1) (by omega); clear hp hso hsort; cases hrl : rl s)
            | (go_at_call 64; rw [hrl] at hri; refine hri.mono ?_; rintro e w2 ⟨rfl, q, rfl⟩))
          · have HE' : Hid (newR ls = ([], 13)) := by show _ = _; rw [HE.out, if_pos hrl]
            go_ret2
            refine ⟨.slice none 0 0, by rw [HE'.out]; rfl, ?_, below_drewN (hb2.trans hb1) q⟩
            rw [HE'.out]
            exact World.ownsRow_nil _ _ _ _
          all_goals first
            | (have h64 : 64 < s.length := by omega
               have HE' : Hid (newR ls = ([], 15)) := by show _ = _; rw [HE.out, if_neg (by rw [hrl]; simp), if_pos h64]
               go_ret2
               refine ⟨.slice none 0 0, by rw [HE'.out]; rfl, ?_, below_drewN (hb2.trans hb1) q⟩
               rw [HE'.out]
               exact World.ownsRow_nil _ _ _ _)
            | (have h64 : ¬ 64 < s.length := by omega
               have HE' : Hid (newR ls = (s, 0)) := by show _ = _; rw [HE.out, if_neg (by rw [hrl]; simp), if_neg h64]
               go_ret2
               refine ⟨_, by rw [HE'.out]; rfl, ?_, below_drewN (hb2.trans hb1) q⟩
               rw [HE'.out]
               exact row_below hr1 (below_drewN (Below.refl _ _) q))

end Go.Proofs.YtdadagbkkaeejaaGreatDoor
