/- Texts that belong together. -/
import Derived.Test.YtfckdleahljdeaaGreatDoorMRo
import Derived.OwnWalk
import Derived.Laws.MakeOwn
import Derived.Test.YtfckdleahljdeaaGreatDoorMDr
import Derived.Deep.RegionHeld3
/- The program's New. -/
namespace Go.Proofs.YtfckdleahljdeaaGreatDoor
open Go.RowKit Go.Maps

theorem live_succ (ls : List Lb) (k : Nat) (hk : k < ls.length) : live (ls.take (k + 1)) = live (ls.take k) ++ (if ls[k].2.toList.isEmpty = true then [] else [ls[k]]) := by
  unfold live
  rw [List.take_succ_eq_append_getElem hk, List.filter_append]
  congr 1
  cases h : ls[k].2.toList.isEmpty <;> simp [h]
theorem heap_two (w : World) (o1 o2 : Obj) : ((w.alloc o1).alloc o2).heap[w.heap.size + 1]? = some o2 := by
  have := heap_alloc_new (w.alloc o1) o2
  rw [World.size_alloc] at this
  exact this
theorem live_length (ls : List Lb) : (live ls).length ≤ ls.length := List.length_filter_le _ _
theorem row_not_nil {_w : World} {_base _size n m : Nat} {_e : TypeId} {v v' : Value} {_xs : List Value} (h : v' = .slice none 0 0 ↔ v = .slice none 0 0 ∧ m = n) (hv : v ≠ .slice none 0 0) : v' ≠ .slice none 0 0 := fun e => hv (h.1 e).1

set_option maxRecDepth 100000 in
set_option maxHeartbeats 4000000 in
theorem new_any (v : Value) (ls : List Lb) (w : World) (h : LabsAt w v ls) (hl : ls.length ≤ 900) (hsz : Sized ls) (hT : Tabs w) :
    Calls Tryz.prog 41 #[v] w fun e w' => ∃ v', e = .returned (.tuple #[v', .int .i64 (newR ls).2]) ∧ w'.ownsRow w.heap.size 49 2 v' (newR ls).1.length (lbCells (newR ls).1) ∧ Below w.heap.size w w' := by
  obtain ⟨a, c, rfl, hlc, -⟩ := id h
  have HC : Hid (LabsAt w (.slice a ls.length c) ls) := h
  have HS : Hid (Sized ls) := hsz
  have HT : Hid (Tabs w) := hT
  obtain ⟨i0, hi0, hz0, hz1, hz2⟩ := info_parts infoLb
  clear h hsz hT
  go_enter Tryz.func41, Tryz.ntmps41
  go_wp2
  go_loopw [11] (fun i wr => ∃ k : Nat, k ≤ ls.length ∧ i = .int .i64 k ∧ Hid (Fair ls k) ∧ Hid (Below w.heap.size w wr)) (fun i _ => ls.length - (intOf i).toNat)
  case atStart => exact ⟨0, Nat.zero_le _, rfl, fun _ _ h => absurd h (Nat.not_lt_zero _), Below.refl _ _⟩
  case round =>
    obtain ⟨k, hk, rfl, hall, hbel⟩ := hrel
    by_cases hlt : k < ls.length
    · obtain ⟨b, o, rfl, hone⟩ := HC.out.one k hlt
      obtain ⟨h0, h1⟩ := hone wr hbel.out
      clear hone
      obtain ⟨x, hx⟩ : ∃ x, x = ls[k].1 := ⟨_, rfl⟩
      obtain ⟨y, hy⟩ : ∃ y, y = ls[k].2 := ⟨_, rfl⟩
      rw [← hx] at h0
      rw [← hy] at h1
      have HX : Hid (ls[k] = (x, y)) := by show _ = _; rw [hx, hy]
      have hb2 : Below w.heap.size w (wr.alloc (.cells #[.string x, .string y] 49 (0, 0))) := hbel.out.alloc hbel.out.size _
      have hf := rightLabel_any (x, y) (wr.alloc (.cells #[.string x, .string y] 49 (0, 0))) (by rw [hy]; exact (HS.out k hlt).2) (HT.out.below hb2)
      have HB2 : Hid (∀ w', Below (wr.alloc (.cells #[.string x, .string y] 49 (0, 0))).heap.size (wr.alloc (.cells #[.string x, .string y] 49 (0, 0))) w' → Below w.heap.size w w') := fun w' hb => hb2.trans (hb.mono hb2.size)
      clear hx hy hb2
      cases hfr : fairL (x, y)
      · have HN : Hid (newR ls = ([], 2)) := by
          show _ = _
          unfold newR
          rw [if_pos (not_all hlt (by rw [HX.out]; exact hfr))]
        rw [hfr] at hf
        go_wp2_with (go_at_call 64; refine hf.mono ?_; rintro e w1 ⟨rfl, hb1⟩)
        go_ret2
        refine ⟨.slice none 0 0, by rw [HN.out]; rfl, ?_, HB2.out _ hb1⟩
        rw [HN.out]
        exact World.ownsRow_nil _ _ _ _
      · rw [hfr] at hf
        go_wp2_with (go_at_call 64; refine hf.mono ?_; rintro e w1 ⟨rfl, hb1⟩)
        go_roundw
        case rel => exact ⟨k + 1, by omega, by go_num, fun i hi hlt' => by
          rcases Nat.lt_succ_iff_lt_or_eq.1 hlt' with h1 | h1
          · exact hall.out i hi h1
          · subst h1; rw [HX.out]; exact hfr, HB2.out _ hb1⟩
        case measure => simp [intOf]; omega
    · have HA : Hid (ls.all fairL = true) := by
        have e : k = ls.length := by omega
        subst e
        exact hall.out.all
      clear hall
      have hb0 := hbel.out
      have hs0 := hb0.size
      clear hbel
      obtain ⟨w0, hmk, hown0, hgrow0⟩ := run_make_own (P := Tryz.prog) (w := wr) w.heap.size 25 49 i0 _ 2 Tryz.underlying25 hi0 hz0 hz1 .i64 .i64 (min ls.length 65) (by rw [hz2]; omega) (by unfold maxLen; omega) hs0
      have ecap : ((min ls.length 65 : Nat) : Int) = min (ls.length : Int) 65 := by omega
      rw [ecap] at hmk
      have hb1 : Below w.heap.size w w0 := hb0.grown hgrow0 hs0 (fun j hj => by cases hj)
      have hne0 : (Value.slice (some ⟨wr.heap.size, 0, none⟩) 0 (min ls.length 65)) ≠ .slice none 0 0 := by simp
      have HR0 : Hid (w0.ownsRow w.heap.size 49 2 (.slice (some ⟨wr.heap.size, 0, none⟩) 0 (min ls.length 65)) 0 []) := hown0
      have HB1 : Hid (Below w.heap.size w w0) := hb1
      clear hown0 hgrow0 hb1 hb0 ecap
      go_wp2
      go_loopw [6, 25] (fun vo i wr => ∃ j : Nat, j ≤ ls.length ∧ i = .int .i64 j ∧ Hid (vo ≠ .slice none 0 0) ∧ Hid (wr.ownsRow w.heap.size 49 2 vo (live (ls.take j)).length (lbCells (live (ls.take j)))) ∧ Hid (Below w.heap.size w wr)) (fun _ i _ => ls.length - (intOf i).toNat)
      case atStart => exact ⟨0, Nat.zero_le _, rfl, hne0, HR0, HB1⟩
      case round =>
        clear HR0 HB1 hmk hne0
        obtain ⟨j, hj, rfl, hne, hrow, hbel⟩ := hrel
        by_cases hlt2 : j < ls.length
        · obtain ⟨b, o, rfl, hone⟩ := HC.out.one j hlt2
          obtain ⟨h0, h1⟩ := hone _ hbel.out
          clear hone
          obtain ⟨x, hx⟩ : ∃ x, x = ls[j].1 := ⟨_, rfl⟩
          obtain ⟨y, hy⟩ : ∃ y, y = ls[j].2 := ⟨_, rfl⟩
          rw [← hx] at h0
          rw [← hy] at h1
          have HF : Hid (live (ls.take (j + 1)) = live (ls.take j) ++ (if y.toList.isEmpty = true then [] else [(x, y)])) := by
            show _ = _
            rw [live_succ ls j hlt2, hx, hy]
          have hll : (live (ls.take j)).length ≤ j := Nat.le_trans (live_length _) (by simp; omega)
          clear hx hy
          obtain ⟨av, cv, hvo⟩ := slice_of_row hrow.out
          generalize live (ls.take j) = lv at *
          have hb2 := hbel.out
          have hs2 := hb2.size
          cases hy0 : y.toList.isEmpty
          · have hy1 : ¬ y.toList = [] := fun e => by rw [e] at hy0; cases hy0
            have HF' : Hid (live (ls.take (j + 1)) = lv ++ [(x, y)]) := by
              show _ = _
              rw [HF.out, if_neg (by rw [hy0]; simp)]
            clear HF
            subst hvo
            have hh2 := heap_two wr (.cells #[.string x, .string y] 49 (0, 0)) (.cells #[.string x, .string y] 49 (0, 0))
            go_wp2_with (at_builtin; refine wpList_append_labs _ rfl _ _ rfl w.heap.size (.slice av lv.length cv) lv.length (lbCells lv) rfl ((hrow.out.alloc _).alloc _) _ [(x, y)] rfl (LabsAt.lone hh2) (by simp; omega) (by simp; omega) ?_; intro v' w1 hr1 hg1 _)
            go_roundw
            case rel =>
              refine ⟨j + 1, by omega, by go_num, fun e => ?_, ?_, ?_⟩
              · obtain ⟨a9, c9, e9⟩ := slice_of_row hr1
                rw [e9] at e
                simp at e
              · have e9 : lbCells (live (ls.take (j + 1))) = lbCells lv ++ lbCells [(x, y)] := by rw [HF'.out, lbCells_append]
                have e8 : (live (ls.take (j + 1))).length = lv.length + [(x, y)].length := by rw [HF'.out, List.length_append]
                show World.ownsRow _ _ _ _ _ _ _
                rw [e9, e8]
                exact hr1
              · have h9 : Below w.heap.size w ((wr.alloc (.cells #[.string x, .string y] 49 (0, 0))).alloc (.cells #[.string x, .string y] 49 (0, 0))) := (hb2.alloc hs2 _).alloc (by simp; omega) _
                exact below_grown h9 (row_lo hrow.out) hg1
            case measure => simp [intOf]; omega
          · have hy1 : y.toList = [] := by simpa using hy0
            have HF' : Hid (live (ls.take (j + 1)) = lv) := by
              show _ = _
              rw [HF.out, if_pos hy0, List.append_nil]
            clear HF
            subst hvo
            have HB : Hid (∀ o, Below w.heap.size w (wr.alloc o)) := fun o => hb2.alloc hs2 o
            have HRO : Hid (∀ o, (wr.alloc o).ownsRow w.heap.size 49 2 (.slice av lv.length cv) lv.length (lbCells lv)) := fun o => hrow.out.alloc o
            go_wp2
            go_roundw
            case rel => exact ⟨j + 1, by omega, by go_num, hne, by show World.ownsRow _ _ _ _ _ _ _; rw [HF'.out]; exact HRO.out _, HB.out _⟩
            case measure => simp [intOf]; omega
        · have hrow' := hrow.out
          rw [List.take_of_length_le (by omega)] at hrow'
          have hll : (live ls).length ≤ ls.length := live_length ls
          obtain ⟨av, cv, hvo⟩ := slice_of_row hrow'
          have hb2 := hbel.out
          have hs2 := hb2.size
          have hsort := sort_any _ (live ls) wr w.heap.size hrow' hne.out (by omega)
          have HSP : Hid (∀ s : List Lb, s.Perm (live ls) → SortedL s → newR ls = if rl s = false then ([], 13) else if 64 < s.length then ([], 15) else (s, 0)) := fun s h1 h2 => newR_sorted HA.out h1 h2
          have HPL : Hid (∀ s : List Lb, s.Perm (live ls) → s.length = (live ls).length) := fun s h1 => h1.length_eq
          generalize live ls = lv at *
          clear hrow hbel hne hrow' HC HS HT
          subst hvo
          go_wp2_with (first
            | (go_at_call 65; refine hsort.mono ?_; rintro e w1 ⟨rfl, s, hp, hso, hr1, hb1⟩; obtain ⟨HE, hlen⟩ : Hid (newR ls = if rl s = false then ([], 13) else if 64 < s.length then ([], 15) else (s, 0)) ∧ s.length = lv.length := ⟨HSP.out s hp hso, HPL.out s hp⟩; have hri := rising_any _ s w1 (LabsAt.of_row hr1) (by omega); clear hp hso hsort; cases hrl : rl s)
            | (go_at_call 68; rw [hrl] at hri; refine hri.mono ?_; rintro e w2 ⟨rfl, q, rfl⟩))
          · have HE' : Hid (newR ls = ([], 13)) := by show _ = _; rw [HE.out, if_pos hrl]
            go_ret2
            refine ⟨.slice none 0 0, by rw [HE'.out]; rfl, ?_, below_drewN (hb2.trans hb1) q⟩
            rw [HE'.out]
            exact World.ownsRow_nil _ _ _ _
          all_goals first
            | (have h64 : 64 < s.length := by omega
               have HE' : Hid (newR ls = ([], 15)) := by show _ = _; rw [HE.out, if_neg (by rw [hrl]; simp), if_pos h64]
               go_ret2
               refine ⟨.slice none 0 0, by rw [HE'.out]; rfl, ?_, below_drewN (hb2.trans hb1) q⟩
               rw [HE'.out]
               exact World.ownsRow_nil _ _ _ _)
            | (have h64 : ¬ 64 < s.length := by omega
               have HE' : Hid (newR ls = (s, 0)) := by show _ = _; rw [HE.out, if_neg (by rw [hrl]; simp), if_neg h64]
               go_ret2
               refine ⟨_, by rw [HE'.out]; rfl, ?_, below_drewN (hb2.trans hb1) q⟩
               rw [HE'.out]
               exact row_below hr1 (below_drewN (Below.refl _ _) q))

end Go.Proofs.YtfckdleahljdeaaGreatDoor

/- A cursor on a line: its end, blanks, names, pieces. -/
namespace Go.Proofs.YtfckdleahljdeaaGreatDoor
open Go.RowKit Go.Maps

/-- The cursor in a block: its line and its place. -/
def Cur (w : World) (U : Nat) (s : ByteArray) (i : Nat) : Prop := w.heap[U]? = some (.cells #[.string s, .int .i64 i] 39)
theorem cellOf {w : World} {b i : Nat} {c : Array Value} {t : TypeId} {z : Nat × Nat} (h : w.heap[b]? = some (.cells c t z)) : w.cell? ⟨b, i, none⟩ = c[i]? := by simp [World.cell?, h]
theorem frozenOf {w : World} {b i : Nat} {c : Array Value} {e : TypeId} (h : w.heap[b]? = some (.cells c e)) : w.frozen? ⟨b, i, none⟩ = false := by simp [World.frozen?, h]
theorem setOf {w : World} {b i : Nat} {cs : Array Value} {t : TypeId} {fr : Nat × Nat} (h : w.heap[b]? = some (.cells cs t fr)) (v : Value) : (w.setCell ⟨b, i, none⟩ v).heap[b]? = some (.cells (cs.setIfInBounds i v) t fr) := by
  simp only [World.setCell, Array.getElem?_modify, h, if_true]
  rfl
theorem Cur.c0 {w : World} {U : Nat} {s : ByteArray} {i : Nat} (h : Cur w U s i) : w.cell? ⟨U, 0, none⟩ = some (.string s) := by
  rw [cellOf h]; rfl
theorem Cur.c1 {w : World} {U : Nat} {s : ByteArray} {i : Nat} (h : Cur w U s i) : w.cell? ⟨U, 1, none⟩ = some (.int .i64 i) := by
  rw [cellOf h]; rfl
theorem Cur.f1 {w : World} {U : Nat} {s : ByteArray} {i : Nat} (h : Cur w U s i) : w.frozen? ⟨U, 1, none⟩ = false := frozenOf h
theorem Cur.drewN {w : World} {U : Nat} {s : ByteArray} {i : Nat} (h : Cur w U s i) (q : Nat) : Cur (w.drewN q) U s i := h
theorem Cur.set {w : World} {U : Nat} {s : ByteArray} {i : Nat} (h : Cur w U s i) (j : Nat) {v : Value} (hv : v = .int .i64 j) : Cur (w.setCell ⟨U, 1, none⟩ v) U s j := by
  subst hv
  unfold Cur
  rw [setOf h]
  rfl
/-- Where the cursor of a block stands. -/
def curAt (w : World) (U : Nat) : Nat := (intOf ((w.cell? ⟨U, 1, none⟩).getD (.int .i64 0))).toNat
theorem Cur.at {w : World} {U : Nat} {s : ByteArray} {i : Nat} (h : Cur w U s i) : curAt w U = i := by
  unfold curAt
  rw [h.c1]
  simp [intOf]
theorem byteAt (s : ByteArray) (k : Nat) (h : k < s.size) : s.data.toList[k]'(by simpa using h) = s[k] := by
  rw [Array.getElem_toList]
  rfl
theorem Kept.cur {O : Nat → Prop} {w w' : World} (h : Kept O w w') {U : Nat} {s : ByteArray} {i : Nat} (hc : Cur w U s i) (hU : ¬ O U) : Cur w' U s i := h.heap hc hU

theorem ret_bo {a b : Bool} (h : a = b) : Ending.returned (.bool a) = .returned (.bool b) := by rw [h]
theorem ret_st {a b : ByteArray} (h : a = b) : Ending.returned (.string a) = .returned (.string b) := by rw [h]
theorem u8_eq {c d : UInt8} : ((c.toNat : Int) == (d.toNat : Int)) = (c == d) := by
  rw [Bool.eq_iff_iff, beq_iff_eq, beq_iff_eq, ← UInt8.toNat_inj]
  omega
theorem isBlank_any (c : UInt8) (w : World) : Calls Tryz.prog 34 #[.int .u8 c.toNat] w fun e w' => e = .returned (.bool (blB c)) ∧ w' = w := by
  have e1 : ((c.toNat : Int) == 32) = (c == 32) := u8_eq (d := 32)
  have e2 : ((c.toNat : Int) == 9) = (c == 9) := u8_eq (d := 9)
  unfold blB
  rw [← e1, ← e2]
  generalize (c.toNat : Int) = b
  clear e1 e2
  cases h1 : (b == 32)
  · cases h2 : (b == 9)
    all_goals
      go_enter Tryz.func34, Tryz.ntmps34
      go_wp2
      go_ret
      exact ⟨rfl, rfl⟩
  · go_enter Tryz.func34, Tryz.ntmps34
    go_wp2
    go_ret
    exact ⟨rfl, rfl⟩
theorem isDigit_any (c : UInt8) (w : World) : Calls Tryz.prog 36 #[.int .u8 c.toNat] w fun e w' => e = .returned (.bool (digB c)) ∧ w' = w := by
  have e1 : digB c = (decide (48 ≤ (c.toNat : Int)) && decide ((c.toNat : Int) ≤ 57)) := by
    unfold digB
    rw [show decide (48 ≤ (c.toNat : Int)) = decide (48 ≤ c) from decide_eq_decide.2 (by rw [UInt8.le_iff_toNat_le]; simp; omega), show decide ((c.toNat : Int) ≤ 57) = decide (c ≤ 57) from decide_eq_decide.2 (by rw [UInt8.le_iff_toNat_le]; simp; omega)]
  rw [e1]
  generalize (c.toNat : Int) = b
  clear e1
  by_cases h1 : 48 ≤ b
  · by_cases h2 : b ≤ 57
    all_goals
      go_enter Tryz.func36, Tryz.ntmps36
      go_wp2
      go_ret
      exact ⟨ret_bo (by simp [h1, h2] <;> omega), rfl⟩
  · go_enter Tryz.func36, Tryz.ntmps36
    go_wp2
    go_ret
    exact ⟨ret_bo (by simp <;> omega), rfl⟩
theorem isLetter_any (c : UInt8) (w : World) : Calls Tryz.prog 35 #[.int .u8 c.toNat] w fun e w' => e = .returned (.bool (letB c)) ∧ w' = w := by
  have e1 : letB c = ((decide (97 ≤ (c.toNat : Int)) && decide ((c.toNat : Int) ≤ 122)) || (decide (65 ≤ (c.toNat : Int)) && decide ((c.toNat : Int) ≤ 90)) || ((c.toNat : Int) == 95)) := by
    unfold letB
    rw [show decide (97 ≤ (c.toNat : Int)) = decide (97 ≤ c) from decide_eq_decide.2 (by rw [UInt8.le_iff_toNat_le]; simp; omega), show decide ((c.toNat : Int) ≤ 122) = decide (c ≤ 122) from decide_eq_decide.2 (by rw [UInt8.le_iff_toNat_le]; simp; omega), show decide (65 ≤ (c.toNat : Int)) = decide (65 ≤ c) from decide_eq_decide.2 (by rw [UInt8.le_iff_toNat_le]; simp; omega), show decide ((c.toNat : Int) ≤ 90) = decide (c ≤ 90) from decide_eq_decide.2 (by rw [UInt8.le_iff_toNat_le]; simp; omega), show ((c.toNat : Int) == 95) = (c == 95) from u8_eq (d := 95)]
  rw [e1]
  generalize (c.toNat : Int) = b
  clear e1
  cases h5 : (b == 95)
  all_goals
    by_cases h1 : 97 ≤ b
    · by_cases h2 : b ≤ 122
      · go_enter Tryz.func35, Tryz.ntmps35
        go_wp2
        go_ret
        exact ⟨ret_bo (by simp [h1, h2] <;> omega), rfl⟩
      · by_cases h3 : 65 ≤ b
        · by_cases h4 : b ≤ 90
          all_goals
            go_enter Tryz.func35, Tryz.ntmps35
            go_wp2
            go_ret
            exact ⟨ret_bo (by simp [h2, h4] <;> omega), rfl⟩
        · omega
    · by_cases h3 : 65 ≤ b
      · by_cases h4 : b ≤ 90
        all_goals
          go_enter Tryz.func35, Tryz.ntmps35
          go_wp2
          go_ret
          exact ⟨ret_bo (by simp [h4] <;> omega), rfl⟩
      · go_enter Tryz.func35, Tryz.ntmps35
        go_wp2
        go_ret
        exact ⟨ret_bo (by simp <;> omega), rfl⟩

set_option maxRecDepth 100000 in
set_option maxHeartbeats 1000000 in
theorem ended_any (U : Nat) (s : ByteArray) (i : Nat) (w : World) (h : Cur w U s i) : Calls Tryz.prog 22 #[.pointer (some ⟨U, 0, none⟩)] w fun e w' => e = .returned (.bool (decide (i = s.size))) ∧ ∃ q, w' = w.drewN q := by
  have c0 := h.c0
  have c1 := h.c1
  clear h
  go_enter Tryz.func22, Tryz.ntmps22
  go_wp2
  go_quiet (fail)
  go_wp2
  go_ret
  exact ⟨ret_bo (by rw [Bool.eq_iff_iff]; simp; omega), _, rfl⟩

set_option maxRecDepth 100000 in
set_option maxHeartbeats 1000000 in
theorem take_any (U : Nat) (s : ByteArray) (i : Nat) (c : UInt8) (w : World) (h : Cur w U s i) (hi : i ≤ s.size) (hs : s.size ≤ 1000000000) : Calls Tryz.prog 19 #[.pointer (some ⟨U, 0, none⟩), .int .u8 c.toNat] w fun e w' => e = .returned (.bool (decide (s.data.toList[i]? = some c))) ∧ Cur w' U s (if s.data.toList[i]? = some c then i + 1 else i) ∧ Kept (fun k => k = U) w w' := by
  have HC : Hid (Cur w U s i) := h
  have HE : Hid (∀ W, (∃ q, W = w.drewN q) → Calls Tryz.prog 22 #[.pointer (some ⟨U, 0, none⟩)] W fun e w' => e = .returned (.bool (decide (i = s.size))) ∧ ∃ q, w' = W.drewN q) := fun W ⟨q, hq⟩ => ended_any U s i W (hq ▸ h)
  have c0 := h.c0
  have c1 := h.c1
  have f1 := h.f1
  clear h
  by_cases he : i = s.size
  · have h9 : ¬ s.data.toList[i]? = some c := by rw [List.getElem?_eq_none (by simp; omega)]; simp
    have hde : decide (i = s.size) = true := decide_eq_true he
    rw [hde] at HE
    rw [if_neg h9, decide_eq_false h9]
    clear h9 hde
    go_enter Tryz.func19, Tryz.ntmps19
    go_wp2
    go_quiet (first | (go_at_call 22; exact Calls.quiet_of (HE.out _ ⟨_, rfl⟩)))
    go_wp2
    go_ret
    exact ⟨rfl, HC.out.drewN _, (Kept.refl _ _).drewN _⟩
  · have hlt : i < s.size := by omega
    have hde : decide (i = s.size) = false := decide_eq_false he
    rw [hde] at HE
    have hb := byteAt s i hlt
    have h9 : s.data.toList[i]? = some s[i] := by rw [List.getElem?_eq_getElem (by simpa using hlt), hb]
    have hq : (((s[i].toNat : Nat) : Int) == (c.toNat : Int)) = (s[i] == c) := u8_eq
    have hbl : s[i].toNat < 256 := s[i].toNat_lt
    rw [h9]
    by_cases hc : s[i] = c
    · rw [if_pos (by rw [hc]), decide_eq_true (by rw [hc])]
      rw [show (s[i] == c) = true from by rw [hc]; simp] at hq
      clear h9 hde hb hc
      go_enter Tryz.func19, Tryz.ntmps19
      go_wp2
      go_quiet (first | (go_at_call 22; exact Calls.quiet_of (HE.out _ ⟨_, rfl⟩)))
      go_wp2
      go_ret
      exact ⟨rfl, (HC.out.drewN _).set (i + 1) (by go_num), ((Kept.refl (fun k => k = U) w).drewN _).setCell (p := ⟨U, 1, none⟩) (fun _ => rfl) _⟩
    · rw [if_neg (fun e => hc (Option.some.inj e)), decide_eq_false (fun e => hc (Option.some.inj e))]
      rw [show (s[i] == c) = false from by simpa using hc] at hq
      clear h9 hde hb hc
      go_enter Tryz.func19, Tryz.ntmps19
      go_wp2
      go_quiet (first | (go_at_call 22; exact Calls.quiet_of (HE.out _ ⟨_, rfl⟩)))
      go_wp2
      go_ret
      exact ⟨rfl, HC.out.drewN _, (Kept.refl _ _).drewN _⟩
end Go.Proofs.YtfckdleahljdeaaGreatDoor
