/- The document's Text. -/
import Derived.Test.YtobkomfeojhhbaaDoorNb
import Derived.Test.YtobkomfeojhhbaaDoorMb
import Derived.Test.YtobkomfeojhhbaaDoorL6r
namespace Go.Proofs.YtobkomfeojhhbaaDoor
open Go.RowKit Go.Maps

def quoteB (s : ByteArray) : ByteArray := ⟨(quoteL s.data.toList).toArray⟩
theorem quoteB_of {o s : ByteArray} (h : o.data.toList = quoteL s.data.toList) : o = quoteB s := by
  cases o with
  | mk d =>
    show (⟨d⟩ : ByteArray) = ⟨_⟩
    rw [← h]
theorem refQuoted_same (s : ByteArray) (w : World) (hs : s.size ≤ 100000000) : Calls Tryd.prog 55 #[.string s] w fun e w' => e = .returned (.string (quoteB s)) ∧ w' = w :=
  (refQuoted_any s w hs).mono fun e w' ⟨o, he, ho, hw⟩ => ⟨by rw [he, quoteB_of ho], hw⟩
theorem quoteB_list (s : ByteArray) : (quoteB s).data.toList = quoteL s.data.toList := by unfold quoteB; simp
theorem quoteB_size (s : ByteArray) : (quoteB s).size ≤ 2 * s.size + 2 := by
  have := quoteL_length s
  show (quoteL s.data.toList).toArray.size ≤ _
  rw [List.size_toArray]
  exact this
theorem foldR_succ (m : ByteArray) (ls : List Lb) (k : Nat) (hk : k < ls.length) : foldR m (ls.take (k + 1)) = stepR (foldR m (ls.take k)) ls[k] := by
  unfold foldR
  rw [List.take_succ_eq_append_getElem hk, List.foldl_append]
  rfl
theorem foldR_num (m : ByteArray) (ls : List Lb) (k : Nat) (hk : k ≤ ls.length) : (foldR m (ls.take k)).1 = k := by
  unfold foldR
  rw [foldR_count]
  simp
  omega
theorem foldR_size (m : ByteArray) (hm : m.size ≤ 1024) (ls : List Lb) (hs : Short ls) : ∀ k, k ≤ ls.length → (foldR m (ls.take k)).2.length ≤ 1025 + k * 4000
  | 0, _ => by
    have hd : m.data.toList.length = m.size := by rw [Array.length_toList]; rfl
    simp [foldR]
    exact hm
  | k + 1, hk => by
    have ih := foldR_size m hm ls hs k (by omega)
    have hlt : k < ls.length := by omega
    have h9 := hs k hlt
    have hq := quoteL_length ls[k].2
    have hd : ls[k].1.data.toList.length = ls[k].1.size := by rw [Array.length_toList]; rfl
    rw [foldR_succ m ls k hlt]
    unfold stepR
    dsimp only
    have hc : (if (foldR m (ls.take k)).1 = 0 then ([] : List UInt8) else [44]).length ≤ 1 := by split <;> simp
    rw [List.length_append, List.length_append, List.length_append, List.length_append, List.length_singleton, hd]
    omega
theorem getL_size {ls : List Lb} (hs : Short ls) (n : ByteArray) : (getL ls n).size ≤ 1024 := by
  unfold getL
  cases h : ls.find? fun x => x.1.toList == n.toList with
  | none => show 0 ≤ 1024; omega
  | some x =>
    have hx := List.mem_of_find?_eq_some h
    obtain ⟨i, hi, rfl⟩ := List.getElem_of_mem hx
    exact (hs i hi).2
theorem chosen_short {ls : List Lb} (hs : Short ls) (ns : List ByteArray) (b : Bool) : Short (chosenL ls ns b) := fun i hi => by
  have hx := List.getElem_mem hi
  have h2 := (List.mem_filter.1 hx).1
  obtain ⟨j, hj, e⟩ := List.getElem_of_mem h2
  rw [← e]
  exact hs j hj

set_option maxRecDepth 100000 in
set_option maxHeartbeats 3000000 in
theorem refText_any (v : Value) (ls : List Lb) (w : World) (h : LabsAt w v ls) (hl : ls.length ≤ 900) (hsh : Short ls) :
    Calls Tryd.prog 19 #[v] w fun e w' => ∃ o : ByteArray, e = .returned (.string o) ∧ o.data.toList = textL ls ∧ Below w.heap.size w w' := by
  obtain ⟨a, c, rfl, -, -⟩ := id h
  have hget := refGet_any _ ls tokB w h (by omega)
  have hgs := getL_size hsh tokB
  have hb0 : Below w.heap.size w (w.alloc (.cells #[.string tokB] 9 (0, 0))) := (Below.refl _ _).alloc (Nat.le_refl _) _
  have hbut := refBut_any _ _ ls [tokB] (w.alloc (.cells #[.string tokB] 9 (0, 0))) (h.below hb0) hl (TextsAt.lone (heap_alloc_new w _) (by decide))
  have hcl := chosenL_length ls [tokB] false
  have HT : Hid (textL ls = refTextL (getL ls tokB) (chosenL ls [tokB] false)) := textL_ref ls
  have HSH : Hid (Short (chosenL ls [tokB] false)) := chosen_short hsh _ _
  have HB0 : Hid (Below w.heap.size w (w.alloc (.cells #[.string tokB] 9 (0, 0)))) := hb0
  generalize chosenL ls [tokB] false = lb at *
  generalize getL ls tokB = m at *
  have hmd : m.data.toList.length = m.size := by rw [Array.length_toList]; rfl
  unfold tokB at *
  clear h hb0 hsh
  have HF : Hid (∀ k, k ≤ lb.length → (foldR m (lb.take k)).2.length ≤ 1025 + k * 4000) := foldR_size m hgs lb HSH.out
  by_cases hc : (!m.toList.isEmpty && lb.isEmpty) = true
  · have HT' : Hid (textL ls = m.data.toList) := by show _ = _; rw [HT.out]; unfold refTextL; rw [if_pos hc]
    rw [Bool.and_eq_true] at hc
    have hm1 : ¬ m.toList = [] := by simpa using hc.1
    have hm2 : m.toList.isEmpty = false := by simpa using hc.1
    have hl1 : lb = [] := by simpa using hc.2
    subst hl1
    clear hc HT HF HSH
    go_enter Tryd.func19, Tryd.ntmps19
    go_wp2_with (first
      | (go_at_call 28; refine hget.mono ?_; clear hget; rintro e w0 ⟨rfl, hw0⟩; have hw0 := hw0.symm; subst hw0)
      | (go_at_call 23; refine hbut.mono ?_; clear hbut; rintro e w1 ⟨v1, rfl, hr1, hb1⟩; obtain ⟨a1, c1, rfl⟩ := slice_of_row hr1))
    go_ret
    exact ⟨_, rfl, HT'.out.symm, HB0.out.trans (hb1.mono HB0.out.size)⟩
  · have HT' : Hid (textL ls = (foldR m lb).2 ++ [125]) := by show _ = _; rw [HT.out]; unfold refTextL; rw [if_neg hc]
    have hcc : (m.toList = [] ∨ 0 < lb.length) := by
      cases h1 : m.toList.isEmpty
      · right
        rw [h1] at hc
        cases lb with
        | nil => simp at hc
        | cons x t => simp
      · left; simpa using h1
    clear hc HT
    have hcase : (m.toList.isEmpty = true) ∨ (m.toList.isEmpty = false ∧ ((lb.length : Int) == 0) = false) := by
      by_cases h1 : m.toList = []
      · exact Or.inl (by rw [h1]; rfl)
      · exact Or.inr ⟨by simpa using h1, by rw [beq_eq_false_iff_ne]; rcases hcc with h2 | h2; exact absurd h2 h1; omega⟩
    clear hcc
    rcases hcase with hm0 | ⟨hm0, hl0⟩
    all_goals
      go_enter Tryd.func19, Tryd.ntmps19
      go_wp2_with (first
        | (go_at_call 28; refine hget.mono ?_; clear hget; rintro e w0 ⟨rfl, hw0⟩; have hw0 := hw0.symm; subst hw0)
        | (go_at_call 23; refine hbut.mono ?_; clear hbut; rintro e w1 ⟨v1, rfl, hr1, hb1⟩; obtain ⟨a1, c1, rfl⟩ := slice_of_row hr1))
      have HL1 : Hid (LabsAt w1 (.slice a1 lb.length c1) lb) := LabsAt.of_row hr1
      have HB1 : Hid (Below w.heap.size w w1) := HB0.out.trans (hb1.mono HB0.out.size)
      clear hr1 hb1 HB0
      go_loopw [5, 6] (fun so i wr => ∃ (k q : Nat) (o : ByteArray), k ≤ lb.length ∧ i = .int .i64 k ∧ so = .string o ∧ wr = w1.drewN q ∧ Hid (o.data.toList = (foldR m (lb.take k)).2)) (fun _ i _ => lb.length - (intOf i).toNat)
      case atStart => exact ⟨0, 0, _, Nat.zero_le _, rfl, rfl, rfl, by show _ = _; simp [foldR]⟩
      case round =>
        obtain ⟨k, q, o, hk, rfl, rfl, rfl, ho⟩ := hrel
        have hos : o.size ≤ 10000000 := by
          have h1 := congrArg List.length ho.out
          have h2 := HF.out k hk
          rw [Array.length_toList] at h1
          show o.data.size ≤ _
          omega
        by_cases hlt : k < lb.length
        · obtain ⟨b, o1, rfl, hone⟩ := HL1.out.one k hlt
          obtain ⟨g0, g1⟩ := hone _ (below_drewN (Below.refl _ _) q)
          clear hone
          have hsk := HSH.out k hlt
          obtain ⟨x, hx⟩ : ∃ x, x = lb[k].1 := ⟨_, rfl⟩
          obtain ⟨y, hy⟩ : ∃ y, y = lb[k].2 := ⟨_, rfl⟩
          rw [← hx] at g0 hsk
          rw [← hy] at g1 hsk
          have hqs := quoteB_size y
          have HE : Hid ((foldR m (lb.take (k + 1))).2 = (foldR m (lb.take k)).2 ++ (if k = 0 then [] else [44]) ++ x.data.toList ++ [61] ++ (quoteB y).data.toList) := by
            show _ = _
            rw [foldR_succ m lb k hlt, quoteB_list, hx, hy]
            unfold stepR
            dsimp only
            rw [foldR_num m lb k hk]
          have hquo := fun W => refQuoted_same y W (by omega)
          have HQ : Hid (∀ r, (w1.drewN q).drewN r = w1.drewN (q + r)) := fun r => World.drewN_drewN _ _ _
          clear hx hy
          have hkl : (k : Int) < (lb.length : Int) := by omega
          generalize w1.drewN q = wr at *
          generalize quoteB y = qy at *
          by_cases hk0 : k = 0
          · have HG : Hid ((o ++ x ++ ⟨#[61]⟩ ++ qy).data.toList = (foldR m (lb.take (k + 1))).2) := by
              show _ = _
              rw [HE.out, if_pos hk0, ← ho.out]
              simp
            have hk0i : ¬ (0 : Int) < (k : Int) := by omega
            clear hk0
            go_wp2
            go_quiet (first | (go_at_call 55; exact Calls.quiet_of_same (hquo _)))
            go_wp2
            go_roundw
            case rel => exact ⟨k + 1, q + nq, _, by omega, by go_num, rfl, HQ.out _, HG⟩
            case measure => simp [intOf]; omega
          · have HG : Hid ((o ++ ⟨#[44]⟩ ++ x ++ ⟨#[61]⟩ ++ qy).data.toList = (foldR m (lb.take (k + 1))).2) := by
              show _ = _
              rw [HE.out, if_neg hk0, ← ho.out]
              simp
            have hk0i : (0 : Int) < (k : Int) := by omega
            go_wp2
            go_quiet (first | (go_at_call 55; exact Calls.quiet_of_same (hquo _)))
            go_wp2
            go_roundw
            case rel => exact ⟨k + 1, q + nq, _, by omega, by go_num, rfl, HQ.out _, HG⟩
            case measure => simp [intOf]; omega
        · have HG : Hid ((o ++ ⟨#[125]⟩).data.toList = textL ls) := by
            show _ = _
            have h1 := ho.out
            rw [List.take_of_length_le (by omega)] at h1
            rw [HT'.out, ← h1]
            simp
          clear ho HF HSH HL1
          go_wp2
          go_ret
          exact ⟨_, rfl, HG.out, below_drewN HB1.out q⟩

end Go.Proofs.YtobkomfeojhhbaaDoor
