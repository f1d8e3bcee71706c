/- Texts that belong together. -/
import Derived.Test.YtfckdleahljdeaaGreatDoorML5
import Derived.Shelf.SlSortCmp.WholeK
/- Rows of one's own. -/
namespace Go.Proofs.YtfckdleahljdeaaGreatDoor
open Go.RowKit Go.Maps Go.Sort

theorem row_mono {w : World} {base base' size n : Nat} {e : TypeId} {v : Value} {xs : List Value} (h : w.ownsRow base e size v n xs) (hb : base' ≤ base) : w.ownsRow base' e size v n xs := by
  refine ⟨h.1, ?_⟩
  rcases h.2 with h1 | ⟨g, cap, cur, e, h2, h3⟩
  · exact Or.inl h1
  · exact Or.inr ⟨g, cap, cur, e, Nat.le_trans hb h2, h3⟩
theorem row_below {w w' : World} {base size n : Nat} {e : TypeId} {v : Value} {xs : List Value} (h : w.ownsRow base e size v n xs) (hb : Below w.heap.size w w') : w'.ownsRow base e size v n xs := by
  refine ⟨h.1, ?_⟩
  rcases h.2 with h1 | ⟨g, cap, cur, e, h2, h3, h4⟩
  · exact Or.inl h1
  · exact Or.inr ⟨g, cap, cur, e, h2, (hb.block g (Array.getElem?_eq_some_iff.1 h3).1).trans h3, h4⟩
theorem slice_of_row {w : World} {base n size : Nat} {e : TypeId} {v : Value} {xs : List Value} (h : w.ownsRow base e size v n xs) : ∃ a c, v = .slice a n c := by
  rcases h.2 with ⟨rfl, rfl⟩ | ⟨g, cap, _, rfl, _⟩
  · exact ⟨none, 0, rfl⟩
  · exact ⟨_, cap, rfl⟩

end Go.Proofs.YtfckdleahljdeaaGreatDoor

/- The document's New. -/
namespace Go.Proofs.YtfckdleahljdeaaGreatDoor
open Go.RowKit Go.Maps Go.Sort

def stepN (r : List Lb × Bool) (x : Lb) : List Lb × Bool := if x.2.toList.isEmpty = true then r else (putL r.1 x, r.2 || hasL r.1 x.1)
def foldN (ls : List Lb) : List Lb × Bool := ls.foldl stepN ([], false)
theorem foldN_succ (ls : List Lb) (k : Nat) (hk : k < ls.length) : foldN (ls.take (k + 1)) = stepN (foldN (ls.take k)) ls[k] := by
  unfold foldN
  rw [List.take_succ_eq_append_getElem hk, List.foldl_append]
  rfl
theorem putL_length (ls : List Lb) (x : Lb) : (putL ls x).length = ls.length + 1 := by
  unfold putL
  have := congrArg List.length (List.takeWhile_append_dropWhile (p := lessL x.1) (l := ls))
  simp only [List.length_append, List.length_cons] at *
  omega
theorem foldl_length (ls : List Lb) (r : List Lb × Bool) : (ls.foldl stepN r).1.length ≤ r.1.length + ls.length := by
  induction ls generalizing r with
  | nil => simp
  | cons a t ih =>
    have h := ih (stepN r a)
    have : (stepN r a).1.length ≤ r.1.length + 1 := by
      unfold stepN
      split
      · omega
      · rw [putL_length]; omega
    simp only [List.foldl_cons, List.length_cons]
    omega
theorem foldN_length (ls : List Lb) : (foldN ls).1.length ≤ ls.length := by
  have := foldl_length ls ([], false)
  rw [List.length_nil, Nat.zero_add] at this
  exact this
def newR (ls : List Lb) : List Lb × Int := if ls.all fairL = false then ([], 2) else if (foldN ls).2 = true then ([], 13) else if 64 < (foldN ls).1.length then ([], 15) else ((foldN ls).1, 0)
def Sized (ls : List Lb) : Prop := ∀ i (h : i < ls.length), ls[i].1.size ≤ maxLen ∧ ls[i].2.size ≤ maxLen
def Fair (ls : List Lb) (k : Nat) : Prop := ∀ i (h : i < ls.length), i < k → fairL ls[i] = true
theorem Fair.all {ls : List Lb} (h : Fair ls ls.length) : ls.all fairL = true := by
  rw [List.all_eq_true]
  intro x hx
  obtain ⟨i, hi, rfl⟩ := List.getElem_of_mem hx
  exact h i hi hi
theorem not_all {ls : List Lb} {k : Nat} (hk : k < ls.length) (h : fairL ls[k] = false) : ls.all fairL = false := by
  rw [List.all_eq_false]
  exact ⟨ls[k], List.getElem_mem hk, by rw [h]; simp⟩
set_option maxRecDepth 100000 in
set_option maxHeartbeats 4000000 in
theorem refNew_any (v : Value) (ls : List Lb) (w : World) (h : LabsAt w v ls) (hl : ls.length ≤ 900) (hsz : Sized ls) :
    Calls Tryz.prog 49 #[v] w fun e w' => ∃ v', e = .returned (.tuple #[v', .int .i64 (newR ls).2]) ∧ w'.ownsRow w.heap.size 49 2 v' (newR ls).1.length (lbCells (newR ls).1) ∧ Below w.heap.size w w' := by
  obtain ⟨a, c, rfl, hlc, -⟩ := id h
  have HC : Hid (LabsAt w (.slice a ls.length c) ls) := h
  have HS : Hid (Sized ls) := hsz
  clear h hsz
  go_enter Tryz.func49, Tryz.ntmps49
  go_wp2
  go_loopw [4] (fun i wr => ∃ k : Nat, k ≤ ls.length ∧ i = .int .i64 k ∧ Hid (Fair ls k) ∧ Hid (Below w.heap.size w wr)) (fun i _ => ls.length - (intOf i).toNat)
  case atStart => exact ⟨0, Nat.zero_le _, rfl, fun _ _ h => absurd h (Nat.not_lt_zero _), Below.refl _ _⟩
  case round =>
    obtain ⟨k, hk, rfl, hall, hbel⟩ := hrel
    by_cases hlt : k < ls.length
    · obtain ⟨b, o, rfl, hone⟩ := HC.out.one k hlt
      obtain ⟨h0, h1⟩ := hone wr hbel.out
      clear hone
      obtain ⟨x, hx⟩ : ∃ x, x = ls[k].1 := ⟨_, rfl⟩
      obtain ⟨y, hy⟩ : ∃ y, y = ls[k].2 := ⟨_, rfl⟩
      rw [← hx] at h0
      rw [← hy] at h1
      have HX : Hid (ls[k] = (x, y)) := by show _ = _; rw [hx, hy]
      have hf := fair_any (x, y) wr (by rw [hx]; exact (HS.out k hlt).1) (by rw [hy]; exact (HS.out k hlt).2)
      clear hx hy
      cases hfr : fairL (x, y)
      · have HN : Hid (newR ls = ([], 2)) := by
          show _ = _
          unfold newR
          rw [if_pos (not_all hlt (by rw [HX.out]; exact hfr))]
        rw [hfr] at hf
        go_wp2_with (go_at_call 78; refine hf.mono ?_; rintro e w1 ⟨rfl, hb1⟩)
        go_ret2
        refine ⟨.slice none 0 0, by rw [HN.out]; rfl, ?_, hbel.out.trans (hb1.mono hbel.out.size)⟩
        rw [HN.out]
        exact World.ownsRow_nil _ _ _ _
      · rw [hfr] at hf
        go_wp2_with (go_at_call 78; refine hf.mono ?_; rintro e w1 ⟨rfl, hb1⟩)
        go_roundw
        case rel => exact ⟨k + 1, by omega, by go_num, fun i hi hlt' => by
          rcases Nat.lt_succ_iff_lt_or_eq.1 hlt' with h1 | h1
          · exact hall.out i hi h1
          · subst h1; rw [HX.out]; exact hfr, hbel.out.trans (hb1.mono hbel.out.size)⟩
        case measure => simp [intOf]; omega
    · have HA : Hid (ls.all fairL = true) := by
        have e : k = ls.length := by omega
        subst e
        exact hall.out.all
      clear hall
      have hbel0 := hbel
      clear hbel
      go_wp2
      go_loopw [5, 6, 7] (fun vo tv i wr => ∃ (j : Nat) (ac : List Lb) (tw : Bool), j ≤ ls.length ∧ tv = .bool tw ∧ i = .int .i64 j ∧ Hid (foldN (ls.take j) = (ac, tw)) ∧ Hid (wr.ownsRow w.heap.size 49 2 vo ac.length (lbCells ac)) ∧ Hid (Below w.heap.size w wr)) (fun _ _ i _ => ls.length - (intOf i).toNat)
      case atStart => exact ⟨0, [], false, Nat.zero_le _, rfl, rfl, rfl, World.ownsRow_nil _ _ _ _, hbel0.out⟩
      case round =>
        clear hbel0
        obtain ⟨j, ac, tw, hj, rfl, rfl, hfold, hrow, hbel⟩ := hrel
        have hacl : ac.length ≤ j := by
          have := foldN_length (ls.take j)
          rw [hfold.out] at this
          simp at this
          omega
        by_cases hlt2 : j < ls.length
        · obtain ⟨b, o, rfl, hone⟩ := HC.out.one j hlt2
          have HO : Hid (∀ w', Below w.heap.size w w' → w'.cell? ⟨b, o + j * 2, none⟩ = some (.string ls[j].1) ∧ w'.cell? ⟨b, o + j * 2 + 1, none⟩ = some (.string ls[j].2)) := hone
          obtain ⟨h0, h1⟩ := hone _ hbel.out
          clear hone
          obtain ⟨x, hx⟩ : ∃ x, x = ls[j].1 := ⟨_, rfl⟩
          obtain ⟨y, hy⟩ : ∃ y, y = ls[j].2 := ⟨_, rfl⟩
          rw [← hx, ← hy] at HO
          rw [← hx] at h0
          rw [← hy] at h1
          have HX : Hid (ls[j] = (x, y)) := by show _ = _; rw [hx, hy]
          clear hx hy
          have HF : Hid (foldN (ls.take (j + 1)) = stepN (ac, tw) (x, y)) := by
            show _ = _
            rw [foldN_succ ls j hlt2, hfold.out, HX.out]
          cases hy0 : y.toList.isEmpty
          · have HF' : Hid (foldN (ls.take (j + 1)) = (putL ac (x, y), tw || hasL ac x)) := by
              show _ = _
              rw [HF.out]
              unfold stepN
              rw [if_neg (by rw [hy0]; simp)]
            have hlab := LabsAt.of_row hrow.out
            obtain ⟨av, cv, hvo⟩ := slice_of_row hrow.out
            have hhas := refHas_any _ ac x _ hlab (by omega)
            have hput := put_any _ ac (x, y) _ hlab (by omega)
            have hy1 : ¬ y.toList = [] := fun e => by rw [e] at hy0; cases hy0
            subst hvo
            generalize putL ac (x, y) = ac' at *
            clear HF hfold HX
            cases tw
            · generalize hasL ac x = hh at *
              go_wp2_with (first
                | (go_at_call 79; refine hhas.mono ?_; rintro e w1 ⟨rfl, rfl⟩)
                | (go_at_call 80; refine hput.mono ?_; rintro e w1 ⟨v1, rfl, hr1, hb1⟩))
              go_roundw
              case rel => exact ⟨j + 1, ac', hh, by omega, by simp, by go_num, by have h9 := HF'.out; simp at h9; exact h9, row_mono hr1 hbel.out.size, hbel.out.trans (hb1.mono hbel.out.size)⟩
              case measure => simp [intOf]; omega
            · go_wp2_with (go_at_call 80; refine hput.mono ?_; rintro e w1 ⟨v1, rfl, hr1, hb1⟩)
              go_roundw
              case rel => exact ⟨j + 1, ac', true, by omega, by simp, by go_num, by have h9 := HF'.out; simp at h9; exact h9, row_mono hr1 hbel.out.size, hbel.out.trans (hb1.mono hbel.out.size)⟩
              case measure => simp [intOf]; omega
          · have HF' : Hid (foldN (ls.take (j + 1)) = (ac, tw)) := by
              show _ = _
              rw [HF.out]
              unfold stepN
              rw [if_pos hy0]
            have hy1 : y.toList = [] := by simpa using hy0
            clear HF hfold HX
            go_wp2
            go_roundw
            case rel => exact ⟨j + 1, ac, tw, by omega, by simp, by go_num, HF', hrow, hbel⟩
            case measure => simp [intOf]; omega
        · have hfold' : Hid (foldN ls = (ac, tw)) := by
            have h1 := hfold.out
            rw [List.take_of_length_le (by omega)] at h1
            exact h1
          have HR : Hid (newR ls = if tw = true then ([], 13) else if 64 < ac.length then ([], 15) else (ac, 0)) := by
            show _ = _
            unfold newR
            rw [if_neg (by rw [HA.out]; simp), hfold'.out]
          obtain ⟨av, cv, hvo⟩ := slice_of_row hrow.out
          subst hvo
          clear hfold hfold' HC
          cases tw
          · by_cases h64 : 64 < ac.length
            · have HR' : Hid (newR ls = ([], 15)) := by show _ = _; rw [HR.out, if_neg (by simp), if_pos h64]
              go_wp2
              go_ret2
              refine ⟨.slice none 0 0, by rw [HR'.out]; rfl, ?_, hbel.out⟩
              rw [HR'.out]
              exact World.ownsRow_nil _ _ _ _
            · have HR' : Hid (newR ls = (ac, 0)) := by show _ = _; rw [HR.out, if_neg (by simp), if_neg h64]
              go_wp2
              go_ret2
              refine ⟨_, by rw [HR'.out]; rfl, ?_, hbel.out⟩
              rw [HR'.out]
              exact hrow.out
          · have HR' : Hid (newR ls = ([], 13)) := by show _ = _; rw [HR.out, if_pos rfl]
            go_wp2
            go_ret2
            refine ⟨.slice none 0 0, by rw [HR'.out]; rfl, ?_, hbel.out⟩
            rw [HR'.out]
            exact World.ownsRow_nil _ _ _ _

end Go.Proofs.YtfckdleahljdeaaGreatDoor

/- The program's rightLabel; what New's order is. -/
namespace Go.Proofs.YtfckdleahljdeaaGreatDoor
open Go.RowKit

set_option maxRecDepth 100000 in
set_option maxHeartbeats 1000000 in
theorem rightLabel_any (x : Lb) (w : World) (h2 : x.2.size ≤ maxLen) (hT : Tabs w) :
    Calls Tryz.prog 64 #[.agg #[.string x.1, .string x.2]] w fun e w' => e = .returned (.bool (fairL x)) ∧ Below w.heap.size w w' := by
  obtain ⟨n, v⟩ := x
  unfold maxLen at h2
  dsimp only at h2
  have hb0 : Below w.heap.size w (w.alloc (.cells #[.string n, .string v] 49 (0, 0))) := (Below.refl _ _).alloc (Nat.le_refl _) _
  have hV : Calls Tryz.prog 56 #[.string v] (w.alloc (.cells #[.string n, .string v] 49 (0, 0))) fun e w' => e = .returned (.bool (Lib.validD v.data.toList)) ∧ Below (w.alloc (.cells #[.string n, .string v] 49 (0, 0))).heap.size (w.alloc (.cells #[.string n, .string v] 49 (0, 0))) w' := Any.utf8_ValidString Tryz.laysValid v _ (by omega) (hT.below hb0).1
  have HB : Hid (∀ w', Below (w.alloc (.cells #[.string n, .string v] 49 (0, 0))).heap.size (w.alloc (.cells #[.string n, .string v] 49 (0, 0))) w' → Below w.heap.size w w' ∧ w'.cell? ⟨w.heap.size, 0, none⟩ = some (.string n) ∧ w'.cell? ⟨w.heap.size, 1, none⟩ = some (.string v)) := fun w' hb => by
    refine ⟨hb0.trans (hb.mono (by simp)), ?_, ?_⟩
    · rw [hb.cell (p := ⟨w.heap.size, 0, none⟩) (by simp)]
      exact World.news_of_block (heap_alloc_new w _) 0 _ rfl
    · rw [hb.cell (p := ⟨w.heap.size, 1, none⟩) (by simp)]
      exact World.news_of_block (heap_alloc_new w _) 1 _ rfl
  have HB0 : Hid (Below w.heap.size w (w.alloc (.cells #[.string n, .string v] 49 (0, 0)))) := hb0
  clear hT hb0
  have hR1 := fun W => rightName_any n W
  have hR3 := fun W => rightMetric_any v W
  unfold fairL valB
  dsimp only
  generalize wd false n = r1 at *
  generalize wd true v = r3 at *
  generalize Lib.validD v.data.toList = r2 at *
  cases r1
  · go_enter Tryz.func64, Tryz.ntmps64
    go_wp2_with (go_at_call 95; refine (hR1 _).mono ?_; rintro e w' ⟨rfl, rfl⟩)
    go_ret
    exact ⟨rfl, HB0.out⟩
  by_cases h1024 : v.size ≤ 1024
  · have e1024 : decide (v.size ≤ 1024) = true := by simp [h1024]
    rw [e1024]
    cases r2
    · go_enter Tryz.func64, Tryz.ntmps64
      go_wp2_with (first | (go_at_call 95; refine (hR1 _).mono ?_; rintro e w' ⟨rfl, rfl⟩) | (go_at_call 56; refine hV.mono ?_; rintro e w1 ⟨rfl, hb1⟩; obtain ⟨hb2, hc0, hc1⟩ := HB.out _ hb1))
      go_ret
      exact ⟨rfl, hb2⟩
    · cases hn : n.toList == nameTok
      · have hn' : (n.toList == [95, 95, 110, 97, 109, 101, 95, 95]) = false := hn
        go_enter Tryz.func64, Tryz.ntmps64
        go_wp2_with (first | (go_at_call 95; refine (hR1 _).mono ?_; rintro e w' ⟨rfl, rfl⟩) | (go_at_call 56; refine hV.mono ?_; rintro e w1 ⟨rfl, hb1⟩; obtain ⟨hb2, hc0, hc1⟩ := HB.out _ hb1))
        all_goals (go_ret; exact ⟨by simp, hb2⟩)
      · have hn' : (n.toList == [95, 95, 110, 97, 109, 101, 95, 95]) = true := hn
        cases hv : v.toList.isEmpty
        · go_enter Tryz.func64, Tryz.ntmps64
          go_wp2_with (first | (go_at_call 95; refine (hR1 _).mono ?_; rintro e w' ⟨rfl, rfl⟩) | (go_at_call 56; refine hV.mono ?_; rintro e w1 ⟨rfl, hb1⟩; obtain ⟨hb2, hc0, hc1⟩ := HB.out _ hb1) | (go_at_call 96; refine (hR3 _).mono ?_; rintro e w' ⟨rfl, rfl⟩))
          all_goals (go_ret; exact ⟨by simp, hb2⟩)
        · go_enter Tryz.func64, Tryz.ntmps64
          go_wp2_with (first | (go_at_call 95; refine (hR1 _).mono ?_; rintro e w' ⟨rfl, rfl⟩) | (go_at_call 56; refine hV.mono ?_; rintro e w1 ⟨rfl, hb1⟩; obtain ⟨hb2, hc0, hc1⟩ := HB.out _ hb1))
          all_goals (go_ret; exact ⟨by simp, hb2⟩)
  · have e1024 : decide (v.size ≤ 1024) = false := by simp [h1024]
    have h' : (1024 : Int) < (v.size : Int) := by omega
    rw [e1024]
    go_enter Tryz.func64, Tryz.ntmps64
    go_wp2_with (go_at_call 95; refine (hR1 _).mono ?_; rintro e w' ⟨rfl, rfl⟩)
    go_ret
    exact ⟨rfl, HB0.out⟩

end Go.Proofs.YtfckdleahljdeaaGreatDoor

/- Labels, sorted by their names. -/
namespace Go.Proofs.YtfckdleahljdeaaGreatDoor
open Go.RowKit Go.Sort Go.Shelf

def encL (x : Lb) : List Value := [.string x.1, .string x.2]
def cmpS (a b : ByteArray) : Int := if Op.bytesLess a.toList b.toList = true then -1 else if (Op.bytesLess a.toList b.toList || a.toList == b.toList) = true then 0 else 1
def cf (x y : Lb) : Int := cmpS x.1 y.1
theorem ltOf_cf (x y : Lb) : ltOf cf x y = decide (x.1.toList < y.1.toList) := by
  unfold ltOf cf cmpS
  rw [bytesLess_eq]
  by_cases h : x.1.toList < y.1.toList
  · simp [h]
  · simp [h]
    split <;> omega
theorem swo_cf : SWO (ltOf cf) where
  irrefl x := by rw [ltOf_cf]; simp [List.lt_irrefl]
  trans x y z h1 h2 := by
    rw [ltOf_cf] at *
    simp only [decide_eq_true_eq] at *
    exact List.lt_trans h1 h2
  ntrans x y z h1 h2 := by
    rw [ltOf_cf] at *
    simp only [decide_eq_false_iff_not, List.not_lt] at *
    exact List.le_trans h2 h1

set_option maxHeartbeats 1000000 in
theorem isNaN_any (x : ByteArray) (w : World) : Calls Tryz.prog 99 #[.string x] w fun e w' => e = .returned (.bool false) ∧ w' = w := by
  go_enter Tryz.func99, Tryz.ntmps99
  go_wp2
  go_ret
  exact ⟨by simp, rfl⟩

set_option maxHeartbeats 1000000 in
theorem compare_any (x y : ByteArray) (w : World) : Calls Tryz.prog 67 #[.string x, .string y] w fun e w' => e = .returned (.int .i64 (cmpS x y)) ∧ w' = w := by
  unfold cmpS
  cases h1 : Op.bytesLess x.toList y.toList
  · cases h2 : x.toList == y.toList
    · go_enter Tryz.func67, Tryz.ntmps67
      go_wp2_with (go_at_call 99; refine (isNaN_any _ _).mono ?_; rintro e w' ⟨rfl, rfl⟩)
      go_ret
      exact ⟨rfl, rfl⟩
    · go_enter Tryz.func67, Tryz.ntmps67
      go_wp2_with (go_at_call 99; refine (isNaN_any _ _).mono ?_; rintro e w' ⟨rfl, rfl⟩)
      go_ret
      exact ⟨rfl, rfl⟩
  · go_enter Tryz.func67, Tryz.ntmps67
    go_wp2_with (go_at_call 99; refine (isNaN_any _ _).mono ?_; rintro e w' ⟨rfl, rfl⟩)
    go_ret
    exact ⟨rfl, rfl⟩

set_option maxHeartbeats 1000000 in
theorem closure_any (x y : Lb) (W : World) : Calls Tryz.prog 66 #[.agg #[.string x.1, .string x.2], .agg #[.string y.1, .string y.2]] W fun e w' => e = .returned (.int .i64 (cf x y)) ∧ ∃ q os', w' = grow (W.drewN q) os' := by
  have hcon := fun W' => compare_any x.1 y.1 W'
  unfold cf
  generalize cmpS x.1 y.1 = r at hcon ⊢
  go_enter Tryz.func66, Tryz.ntmps66
  go_wp2_with (go_at_call 67; refine (hcon _).mono ?_; rintro e w' ⟨rfl, rfl⟩)
  go_ret
  exact ⟨rfl, 0, _, by rw [alloc_eq_grow, alloc_eq_grow, grow_grow]; rfl⟩

theorem cmpLays (blk off size : Nat) (w : World) : CmpLays Tryz.prog 66 #[] encL 2 cf blk off size w := fun _ _ _ _ x y => closure_any x y _

theorem flatL (ls : List Lb) : flatK encL 2 ls.toArray = (lbCells ls).toArray := by
  refine ext_get! (by simp [lbCells_length]) fun t ht => ?_
  have ht' : t < ls.length * 2 := by simpa using ht
  have hk : t / 2 < ls.length := by omega
  rw [get_flatK _ _ _ t (by simpa using ht')]
  have e1 : ls.toArray[t / 2]! = ls[t / 2] := by simp [hk]
  have h3 := lbCells_at ls (t / 2) hk
  rw [e1]
  have e2 : (lbCells ls).toArray[t]! = ((lbCells ls)[t]?).getD default := by simp [getElem!_def]; cases (lbCells ls)[t]? <;> rfl
  rw [e2]
  rcases Nat.mod_two_eq_zero_or_one t with hm | hm
  · have ej : t = t / 2 * 2 := by omega
    rw [hm]
    conv => rhs; rw [ej]
    rw [h3.1]
    rfl
  · have ej : t = t / 2 * 2 + 1 := by omega
    rw [hm]
    conv => rhs; rw [ej]
    rw [h3.2]
    rfl

theorem holdsL {w : World} {g : Nat} {cur : Array Value} {e : TypeId} {ls : List Lb} (hb : w.heap[g]? = some (.cells cur e (0, 0))) (ht : cur.toList.take (ls.length * 2) = lbCells ls) : HoldsK encL 2 w g 0 ls.toArray := by
  unfold HoldsK
  rw [flatL]
  intro j hj
  have hj' : j < (lbCells ls).length := by simpa using hj
  refine ⟨?_, by simp [World.frozen?, hb]⟩
  have h1 : (cur.toList.take (ls.length * 2))[j]? = (lbCells ls)[j]? := by rw [ht]
  rw [List.getElem?_take_of_lt (by rw [lbCells_length] at hj'; exact hj')] at h1
  simp only [World.cell?, hb, Nat.zero_add]
  rw [Array.getElem?_toList] at h1
  rw [h1, List.getElem?_eq_getElem hj']
  simp [hj']

theorem heapL {w : World} {g n : Nat} {os : Array Obj} {cur : Array Value} {e : TypeId} {fr : Nat × Nat} (ls : List Lb) (hb : w.heap[g]? = some (.cells cur e fr)) :
    (sortWorldK encL 2 w g 0 n ls.toArray os).heap[g]? = some (.cells (putCells id 0 (lbCells ls).toArray cur) e fr) := by
  have hg : g < w.heap.size := (Array.getElem?_eq_some_iff.1 hb).1
  unfold sortWorldK putRowK
  rw [flatL, heap_grow_old _ _ (by simpa using hg)]
  simp [putRow, mapBlock, Sort.ahead, Array.getElem?_modify, hb, onCells]
theorem grownL {w : World} {g n : Nat} {os : Array Obj} (d : Array Lb) : w.grownBy (sortWorldK encL 2 w g 0 n d os) (some g) := by
  unfold sortWorldK putRowK
  refine ⟨rfl, rfl, rfl, by simp, fun k hk hne => ?_⟩
  rw [heap_grow_old _ _ (by simpa using hk)]
  have : g ≠ k := fun e => hne (by rw [e])
  simp [putRow, mapBlock, Sort.ahead, Array.getElem?_modify, this]
theorem takeL (cur : Array Value) (ts : List Value) (h : ts.length ≤ cur.size) : (putCells id 0 ts.toArray cur).toList.take ts.length = ts := by
  apply List.ext_getElem?
  intro j
  by_cases hj : j < ts.length
  · rw [List.getElem?_take_of_lt hj, Array.getElem?_toList]
    simp [putCells, hj, show j < cur.size by omega]
  · rw [List.getElem?_take_eq_none (by omega), List.getElem?_eq_none (by omega)]

/-- Sorted by name: no later one is less. -/
def SortedL (ls : List Lb) : Prop := ls.Pairwise fun x y => ¬ y.1.toList < x.1.toList

set_option maxHeartbeats 1000000 in
/-- slices.SortFunc by New's order: the same slice has the same labels, sorted by name. -/
theorem sort_any (v : Value) (ls : List Lb) (w : World) (base : Nat) (h : w.ownsRow base 49 2 v ls.length (lbCells ls)) (hn : v ≠ .slice none 0 0) (hl : ls.length ≤ 1000000) :
    Calls Tryz.prog 65 #[v, .func (.func 66) #[] #[]] w fun e w' => e = .returned (.tuple #[]) ∧ ∃ ls' : List Lb, ls'.Perm ls ∧ SortedL ls' ∧ w'.ownsRow base 49 2 v ls'.length (lbCells ls') ∧ Below base w w' := by
  rcases h.2 with ⟨hnil, _⟩ | ⟨g, cap, cur, rfl, hbase, hb, h1, h2, h3, h4⟩
  · exact absurd hnil hn
  have eg : ∀ args w, (callFunc 66 args).run Tryz.prog w = .ok (.enter 66 args) w := enters_of Tryz.func66 (by kernel_rfl) rfl
  have hgl : g < w.heap.size := (Array.getElem?_eq_some_iff.1 hb).1
  have hcon := AnyQ.slices_SortFunc Tryz.sortLb 2 Tryz.isAgg49 Tryz.sizeOf49 encL (fun _ => rfl) (fun x v hv => by simp [encL] at hv; rcases hv with rfl | rfl <;> rfl) cf swo_cf 66 #[] g 0 cap ls.toArray w eg (cmpLays g 0 _ w) (holdsL hb h4) hgl (by simp; omega)
  change Calls Tryz.prog 65 _ _ _ at hcon
  have es : ls.toArray.size = ls.length := by simp
  rw [es] at hcon
  refine hcon.mono ?_
  rintro e w' ⟨rfl, d', n, os, hp, hs, rfl⟩
  obtain ⟨hp1, hp2, hp3⟩ := hp
  have hd : d'.size = ls.length := by rw [hp1]; simp
  have ex : d'.extract 0 ls.length = d' := by rw [← hd]; simp
  have ex2 : ls.toArray.extract 0 ls.length = ls.toArray := by rw [← es]; simp
  rw [ex, ex2] at hp3
  have hl' : d'.toList.length = ls.length := by simpa using hd
  have hd' : d' = d'.toList.toArray := by simp
  refine ⟨rfl, d'.toList, by simpa using hp3, ?_, ?_, ?_⟩
  · unfold SortedL
    rw [List.pairwise_iff_getElem]
    intro i j hi hj hij
    have := hs i j (Nat.zero_le _) hij (by omega)
    rw [ltOf_cf, decide_eq_false_iff_not] at this
    have e1 : d'[i]! = d'.toList[i] := by rw [getElem!_pos d' i (by simpa using hi)]; simp
    have e2 : d'[j]! = d'.toList[j] := by rw [getElem!_pos d' j (by simpa using hj)]; simp
    rw [e1, e2] at this
    exact this
  · rw [hl']
    refine ⟨by rw [lbCells_length, hl'], Or.inr ⟨g, cap, putCells id 0 (lbCells d'.toList).toArray cur, rfl, hbase, ?_, h1, h2, ?_, ?_⟩⟩
    · have := heapL (n := n) (os := os) d'.toList hb
      rw [← hd'] at this
      exact this
    · simp [putCells, h3]
    · have := takeL cur (lbCells d'.toList) (by rw [lbCells_length, hl', h3]; exact Nat.mul_le_mul_right _ h1)
      rw [lbCells_length, hl'] at this
      exact this
  · exact (Below.refl _ _).grown (grownL _) (by omega) (fun j hj => by cases hj; exact hbase)

end Go.Proofs.YtfckdleahljdeaaGreatDoor

/- Sets of labels, as lists: what the document's New makes, and what a sort makes. -/
namespace Go.Proofs.YtfckdleahljdeaaGreatDoor

def live (ls : List Lb) : List Lb := ls.filter fun x => !x.2.toList.isEmpty
def names (ls : List Lb) : List (List UInt8) := ls.map fun x => x.1.toList
theorem names_perm {l m : List Lb} (h : l.Perm m) : (names l).Nodup ↔ (names m).Nodup := (h.map fun x : Lb => x.1.toList).nodup_iff
def stepP (r : List Lb × Bool) (x : Lb) : List Lb × Bool := (putL r.1 x, r.2 || hasL r.1 x.1)

theorem fold_live (ls : List Lb) (r : List Lb × Bool) : ls.foldl stepN r = (live ls).foldl stepP r := by
  induction ls generalizing r with
  | nil => rfl
  | cons a t ih =>
    simp only [List.foldl_cons, live, List.filter_cons]
    cases h : a.2.toList.isEmpty
    · simp only [Bool.not_false, if_true, List.foldl_cons]
      rw [ih]
      have : stepN r a = stepP r a := by unfold stepN stepP; rw [if_neg (by rw [h]; simp)]
      rw [this]
      rfl
    · simp only [Bool.not_true, Bool.false_eq_true, if_false]
      rw [ih]
      have : stepN r a = r := by unfold stepN; rw [if_pos h]
      rw [this]
      rfl
theorem putL_perm (ls : List Lb) (x : Lb) : (putL ls x).Perm (x :: ls) := by
  unfold putL
  refine List.perm_middle.trans ?_
  rw [List.takeWhile_append_dropWhile]
theorem hasL_iff (ls : List Lb) (n : ByteArray) : hasL ls n = true ↔ n.toList ∈ names ls := by
  unfold hasL names
  rw [List.any_eq_true, List.mem_map]
  constructor
  · rintro ⟨x, hx, he⟩
    exact ⟨x, hx, by simpa using he⟩
  · rintro ⟨x, hx, he⟩
    exact ⟨x, hx, by simpa using he⟩
theorem lt_asymm' {a b : List UInt8} (h : a < b) : ¬ b < a := fun h' => List.lt_irrefl a (List.lt_trans h h')
theorem lt_of' {a b : List UInt8} (h : ¬ b < a) (hne : a ≠ b) : a < b := by
  rcases Classical.em (a < b) with h1 | h1
  · exact h1
  · exact absurd (List.le_antisymm (List.not_lt.1 h) (List.not_lt.1 h1)) hne
theorem less_iff (x : ByteArray) (y : Lb) : lessL x y = true ↔ y.1.toList < x.toList := by
  unfold lessL
  rw [bytesLess_eq, decide_eq_true_eq]

theorem sorted_putL {ls : List Lb} (h : SortedL ls) (x : Lb) : SortedL (putL ls x) := by
  unfold SortedL putL at *
  have hsp := List.takeWhile_append_dropWhile (p := lessL x.1) (l := ls)
  have h' := h
  rw [← hsp, List.pairwise_append] at h'
  obtain ⟨h1, h2, h3⟩ := h'
  have htake : ∀ a ∈ ls.takeWhile (lessL x.1), a.1.toList < x.1.toList := fun a ha => (less_iff _ _).1 (by
    have := List.all_takeWhile (p := lessL x.1) (l := ls)
    rw [List.all_eq_true] at this
    exact this a ha)
  have hdrop : ∀ b ∈ ls.dropWhile (lessL x.1), ¬ b.1.toList < x.1.toList := fun b hb => by
    cases hd : ls.dropWhile (lessL x.1) with
    | nil => rw [hd] at hb; cases hb
    | cons c r =>
      have hc : lessL x.1 c = false := by
        have := List.head?_dropWhile_not (lessL x.1) ls
        rw [hd] at this
        simpa using this
      have hc' : ¬ c.1.toList < x.1.toList := fun h => by
        rw [(less_iff _ _).2 h] at hc
        cases hc
      rw [hd] at hb h2
      rcases List.mem_cons.1 hb with rfl | hb'
      · exact hc'
      · have := (List.pairwise_cons.1 h2).1 b hb'
        intro hbx
        rcases Classical.em (c.1.toList = b.1.toList) with e | e
        · rw [e] at hc'; exact hc' hbx
        · exact hc' (List.lt_trans (lt_of' this e) hbx)
  rw [List.pairwise_append]
  refine ⟨h1, List.pairwise_cons.2 ⟨hdrop, h2⟩, fun a ha b hb => ?_⟩
  rcases List.mem_cons.1 hb with rfl | hb'
  · exact lt_asymm' (htake a ha)
  · exact h3 a ha b hb'

theorem fold_inv (xs : List Lb) : ∀ r : List Lb × Bool, SortedL r.1 → (r.2 = true ↔ ¬ (names r.1).Nodup) → ((xs.foldl stepP r).1.Perm (xs ++ r.1) ∧ SortedL (xs.foldl stepP r).1 ∧ ((xs.foldl stepP r).2 = true ↔ ¬ (names (xs.foldl stepP r).1).Nodup)) := by
  induction xs with
  | nil => intro r h1 h2; exact ⟨List.Perm.refl _, h1, h2⟩
  | cons a t ih =>
    intro r h1 h2
    rw [List.foldl_cons]
    have hp := putL_perm r.1 a
    have hn : (names (putL r.1 a)).Perm (a.1.toList :: names r.1) := hp.map _
    have := ih (stepP r a) (sorted_putL h1 a) (by
      show (r.2 || hasL r.1 a.1) = true ↔ ¬ (names (putL r.1 a)).Nodup
      rw [hn.nodup_iff, List.nodup_cons, Bool.or_eq_true, h2, hasL_iff]
      constructor
      · rintro (h | h) ⟨h3, h4⟩
        · exact h h4
        · exact h3 h
      · intro h
        rcases Classical.em (a.1.toList ∈ names r.1) with h3 | h3
        · exact Or.inr h3
        · exact Or.inl fun h4 => h ⟨h3, h4⟩)
    refine ⟨this.1.trans ?_, this.2⟩
    show (t ++ putL r.1 a).Perm (a :: t ++ r.1)
    exact (List.Perm.append_left t hp).trans List.perm_middle

theorem foldN_inv (ls : List Lb) : (foldN ls).1.Perm (live ls) ∧ SortedL (foldN ls).1 ∧ ((foldN ls).2 = true ↔ ¬ (names (live ls)).Nodup) := by
  unfold foldN
  rw [fold_live]
  have := fold_inv (live ls) ([], false) List.Pairwise.nil (by simp [names])
  refine ⟨by simpa using this.1, this.2.1, ?_⟩
  rw [this.2.2]
  have hp : ((live ls).foldl stepP ([], false)).1.Perm (live ls) := by simpa using this.1
  rw [names_perm hp]

theorem rl_strict {ls : List Lb} (h : rl ls = true) : ls.Pairwise fun x y => x.1.toList < y.1.toList := by
  have hr := (rl_iff ls).1 h
  rw [List.pairwise_iff_getElem]
  intro i j hi hj hij
  induction j with
  | zero => omega
  | succ j ih =>
    rcases Nat.lt_succ_iff_lt_or_eq.1 hij with h1 | h1
    · exact List.lt_trans (ih (by omega) h1) (hr j hj)
    · subst h1; exact hr i hj
theorem strict_nodup {ls : List Lb} (h : ls.Pairwise fun x y => x.1.toList < y.1.toList) : (names ls).Nodup := by
  unfold names List.Nodup
  rw [List.pairwise_map]
  exact h.imp fun h e => by rw [e] at h; exact List.lt_irrefl _ h
theorem nodup_strict {ls : List Lb} (h : SortedL ls) (hn : (names ls).Nodup) : ls.Pairwise fun x y => x.1.toList < y.1.toList := by
  unfold names List.Nodup at hn
  rw [List.pairwise_map] at hn
  unfold SortedL at h
  exact (h.and hn).imp fun ⟨h1, h2⟩ => lt_of' h1 h2
theorem rl_of_strict {ls : List Lb} (h : ls.Pairwise fun x y => x.1.toList < y.1.toList) : rl ls = true := by
  rw [rl_iff]
  intro k hk
  rw [List.pairwise_iff_getElem] at h
  exact h k (k + 1) (by omega) hk (by omega)
theorem rl_iff_nodup {ls : List Lb} (h : SortedL ls) : rl ls = true ↔ (names ls).Nodup := ⟨fun hr => strict_nodup (rl_strict hr), fun hn => rl_of_strict (nodup_strict h hn)⟩

theorem strict_unique : ∀ {l m : List Lb}, (l.Pairwise fun x y => x.1.toList < y.1.toList) → (m.Pairwise fun x y => x.1.toList < y.1.toList) → l.Perm m → l = m
  | [], m, _, _, hp => (List.Perm.nil_eq hp)
  | a :: l, [], _, _, hp => absurd hp.length_eq (by simp)
  | a :: l, b :: m, h1, h2, hp => by
    have e : a = b := by
      have ha : a ∈ b :: m := hp.mem_iff.1 (List.mem_cons_self ..)
      have hb : b ∈ a :: l := hp.mem_iff.2 (List.mem_cons_self ..)
      rcases List.mem_cons.1 ha with e | ha'
      · exact e
      · rcases List.mem_cons.1 hb with e | hb'
        · exact e.symm
        · exact absurd ((List.pairwise_cons.1 h1).1 b hb') (lt_asymm' ((List.pairwise_cons.1 h2).1 a ha'))
    subst e
    rw [strict_unique (List.pairwise_cons.1 h1).2 (List.pairwise_cons.1 h2).2 (List.perm_cons a |>.1 hp)]

/-- What New answers, by a sorted row of the labels that have a value. -/
theorem newR_sorted {ls s : List Lb} (hall : ls.all fairL = true) (hp : s.Perm (live ls)) (hs : SortedL s) : newR ls = if rl s = false then ([], 13) else if 64 < s.length then ([], 15) else (s, 0) := by
  obtain ⟨h1, h2, h3⟩ := foldN_inv ls
  have hn : (names s).Nodup ↔ (names (live ls)).Nodup := names_perm hp
  unfold newR
  rw [if_neg (by rw [hall]; simp)]
  by_cases hr : rl s = true
  · have hnd := hn.1 ((rl_iff_nodup hs).1 hr)
    have hf : (foldN ls).2 = false := by
      rw [Bool.eq_false_iff]
      intro h
      exact h3.1 h hnd
    have hnf : (names (foldN ls).1).Nodup := (names_perm h1).2 hnd
    have e : (foldN ls).1 = s := strict_unique (nodup_strict h2 hnf) (rl_strict hr) (h1.trans hp.symm)
    have hr2 : ¬ (rl s = false) := by rw [hr]; simp
    rw [hf, e, if_neg hr2]
    rfl
  · have hr' : rl s = false := by simpa using hr
    have hf : (foldN ls).2 = true := h3.2 fun h => hr ((rl_iff_nodup hs).2 (hn.2 h))
    rw [hf, if_pos rfl, if_pos hr']

end Go.Proofs.YtfckdleahljdeaaGreatDoor
