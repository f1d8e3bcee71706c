/- The document's New. -/
import Derived.Test.YtlfcnekmdojabaaDoorL5
import Derived.Test.YtlfcnekmdojabaaDoorRo
namespace Go.Proofs.YtlfcnekmdojabaaDoor
open Go.RowKit Go.Maps Go.Sort

def stepN (r : List Lb × Bool) (x : Lb) : List Lb × Bool := if x.2.toList.isEmpty = true then r else (putL r.1 x, r.2 || hasL r.1 x.1)
def foldN (ls : List Lb) : List Lb × Bool := ls.foldl stepN ([], false)
theorem foldN_succ (ls : List Lb) (k : Nat) (hk : k < ls.length) : foldN (ls.take (k + 1)) = stepN (foldN (ls.take k)) ls[k] := by
  unfold foldN
  rw [List.take_succ_eq_append_getElem hk, List.foldl_append]
  rfl
theorem putL_length (ls : List Lb) (x : Lb) : (putL ls x).length = ls.length + 1 := by
  unfold putL
  have := congrArg List.length (List.takeWhile_append_dropWhile (p := lessL x.1) (l := ls))
  simp only [List.length_append, List.length_cons] at *
  omega
theorem foldl_length (ls : List Lb) (r : List Lb × Bool) : (ls.foldl stepN r).1.length ≤ r.1.length + ls.length := by
  induction ls generalizing r with
  | nil => simp
  | cons a t ih =>
    have h := ih (stepN r a)
    have : (stepN r a).1.length ≤ r.1.length + 1 := by
      unfold stepN
      split
      · omega
      · rw [putL_length]; omega
    simp only [List.foldl_cons, List.length_cons]
    omega
theorem foldN_length (ls : List Lb) : (foldN ls).1.length ≤ ls.length := by
  have := foldl_length ls ([], false)
  rw [List.length_nil, Nat.zero_add] at this
  exact this
def newR (ls : List Lb) : List Lb × Int := if ls.all fairL = false then ([], 2) else if (foldN ls).2 = true then ([], 13) else if 64 < (foldN ls).1.length then ([], 15) else ((foldN ls).1, 0)
def Sized (ls : List Lb) : Prop := ∀ i (h : i < ls.length), ls[i].1.size ≤ maxLen ∧ ls[i].2.size ≤ maxLen
def Fair (ls : List Lb) (k : Nat) : Prop := ∀ i (h : i < ls.length), i < k → fairL ls[i] = true
theorem Fair.all {ls : List Lb} (h : Fair ls ls.length) : ls.all fairL = true := by
  rw [List.all_eq_true]
  intro x hx
  obtain ⟨i, hi, rfl⟩ := List.getElem_of_mem hx
  exact h i hi hi
theorem not_all {ls : List Lb} {k : Nat} (hk : k < ls.length) (h : fairL ls[k] = false) : ls.all fairL = false := by
  rw [List.all_eq_false]
  exact ⟨ls[k], List.getElem_mem hk, by rw [h]; simp⟩
set_option maxRecDepth 100000 in
set_option maxHeartbeats 4000000 in
theorem refNew_any (v : Value) (ls : List Lb) (w : World) (h : LabsAt w v ls) (hl : ls.length ≤ 900) (hsz : Sized ls) :
    Calls Tryd.prog 9 #[v] w fun e w' => ∃ v', e = .returned (.tuple #[v', .int .i64 (newR ls).2]) ∧ w'.ownsRow w.heap.size 28 2 v' (newR ls).1.length (lbCells (newR ls).1) ∧ Below w.heap.size w w' := by
  obtain ⟨a, c, rfl, hlc, -⟩ := id h
  have HC : Hid (LabsAt w (.slice a ls.length c) ls) := h
  have HS : Hid (Sized ls) := hsz
  clear h hsz
  go_enter Tryd.func9, Tryd.ntmps9
  go_wp2
  go_loopw [4] (fun i wr => ∃ k : Nat, k ≤ ls.length ∧ i = .int .i64 k ∧ Hid (Fair ls k) ∧ Hid (Below w.heap.size w wr)) (fun i _ => ls.length - (intOf i).toNat)
  case atStart => exact ⟨0, Nat.zero_le _, rfl, fun _ _ h => absurd h (Nat.not_lt_zero _), Below.refl _ _⟩
  case round =>
    obtain ⟨k, hk, rfl, hall, hbel⟩ := hrel
    by_cases hlt : k < ls.length
    · obtain ⟨b, o, rfl, hone⟩ := HC.out.one k hlt
      obtain ⟨h0, h1⟩ := hone wr hbel.out
      clear hone
      obtain ⟨x, hx⟩ : ∃ x, x = ls[k].1 := ⟨_, rfl⟩
      obtain ⟨y, hy⟩ : ∃ y, y = ls[k].2 := ⟨_, rfl⟩
      rw [← hx] at h0
      rw [← hy] at h1
      have HX : Hid (ls[k] = (x, y)) := by show _ = _; rw [hx, hy]
      have hf := fair_any (x, y) wr (by rw [hx]; exact (HS.out k hlt).1) (by rw [hy]; exact (HS.out k hlt).2)
      clear hx hy
      cases hfr : fairL (x, y)
      · have HN : Hid (newR ls = ([], 2)) := by
          show _ = _
          unfold newR
          rw [if_pos (not_all hlt (by rw [HX.out]; exact hfr))]
        rw [hfr] at hf
        go_wp2_with (go_at_call 15; refine hf.mono ?_; rintro e w1 ⟨rfl, hb1⟩)
        go_ret2
        refine ⟨.slice none 0 0, by rw [HN.out]; rfl, ?_, hbel.out.trans (hb1.mono hbel.out.size)⟩
        rw [HN.out]
        exact World.ownsRow_nil _ _ _ _
      · rw [hfr] at hf
        go_wp2_with (go_at_call 15; refine hf.mono ?_; rintro e w1 ⟨rfl, hb1⟩)
        go_roundw
        case rel => exact ⟨k + 1, by omega, by go_num, fun i hi hlt' => by
          rcases Nat.lt_succ_iff_lt_or_eq.1 hlt' with h1 | h1
          · exact hall.out i hi h1
          · subst h1; rw [HX.out]; exact hfr, hbel.out.trans (hb1.mono hbel.out.size)⟩
        case measure => simp [intOf]; omega
    · have HA : Hid (ls.all fairL = true) := by
        have e : k = ls.length := by omega
        subst e
        exact hall.out.all
      clear hall
      have hbel0 := hbel
      clear hbel
      go_wp2
      go_loopw [5, 6, 7] (fun vo tv i wr => ∃ (j : Nat) (ac : List Lb) (tw : Bool), j ≤ ls.length ∧ tv = .bool tw ∧ i = .int .i64 j ∧ Hid (foldN (ls.take j) = (ac, tw)) ∧ Hid (wr.ownsRow w.heap.size 28 2 vo ac.length (lbCells ac)) ∧ Hid (Below w.heap.size w wr)) (fun _ _ i _ => ls.length - (intOf i).toNat)
      case atStart => exact ⟨0, [], false, Nat.zero_le _, rfl, rfl, rfl, World.ownsRow_nil _ _ _ _, hbel0.out⟩
      case round =>
        clear hbel0
        obtain ⟨j, ac, tw, hj, rfl, rfl, hfold, hrow, hbel⟩ := hrel
        have hacl : ac.length ≤ j := by
          have := foldN_length (ls.take j)
          rw [hfold.out] at this
          simp at this
          omega
        by_cases hlt2 : j < ls.length
        · obtain ⟨b, o, rfl, hone⟩ := HC.out.one j hlt2
          have HO : Hid (∀ w', Below w.heap.size w w' → w'.cell? ⟨b, o + j * 2, none⟩ = some (.string ls[j].1) ∧ w'.cell? ⟨b, o + j * 2 + 1, none⟩ = some (.string ls[j].2)) := hone
          obtain ⟨h0, h1⟩ := hone _ hbel.out
          clear hone
          obtain ⟨x, hx⟩ : ∃ x, x = ls[j].1 := ⟨_, rfl⟩
          obtain ⟨y, hy⟩ : ∃ y, y = ls[j].2 := ⟨_, rfl⟩
          rw [← hx, ← hy] at HO
          rw [← hx] at h0
          rw [← hy] at h1
          have HX : Hid (ls[j] = (x, y)) := by show _ = _; rw [hx, hy]
          clear hx hy
          have HF : Hid (foldN (ls.take (j + 1)) = stepN (ac, tw) (x, y)) := by
            show _ = _
            rw [foldN_succ ls j hlt2, hfold.out, HX.out]
          cases hy0 : y.toList.isEmpty
          · have HF' : Hid (foldN (ls.take (j + 1)) = (putL ac (x, y), tw || hasL ac x)) := by
              show _ = _
              rw [HF.out]
              unfold stepN
              rw [if_neg (by rw [hy0]; simp)]
            have hlab := LabsAt.of_row hrow.out
            obtain ⟨av, cv, hvo⟩ := slice_of_row hrow.out
            have hhas := refHas_any _ ac x _ hlab (by omega)
            have hput := put_any _ ac (x, y) _ hlab (by omega)
            have hy1 : ¬ y.toList = [] := fun e => by rw [e] at hy0; cases hy0
            subst hvo
            generalize putL ac (x, y) = ac' at *
            clear HF hfold HX
            cases tw
            · generalize hasL ac x = hh at *
              go_wp2_with (first
                | (go_at_call 16; refine hhas.mono ?_; rintro e w1 ⟨rfl, rfl⟩)
                | (go_at_call 17; refine hput.mono ?_; rintro e w1 ⟨v1, rfl, hr1, hb1⟩))
              go_roundw
              case rel => exact ⟨j + 1, ac', hh, by omega, by simp, by go_num, by have h9 := HF'.out; simp at h9; exact h9, row_mono hr1 hbel.out.size, hbel.out.trans (hb1.mono hbel.out.size)⟩
              case measure => simp [intOf]; omega
            · go_wp2_with (go_at_call 17; refine hput.mono ?_; rintro e w1 ⟨v1, rfl, hr1, hb1⟩)
              go_roundw
              case rel => exact ⟨j + 1, ac', true, by omega, by simp, by go_num, by have h9 := HF'.out; simp at h9; exact h9, row_mono hr1 hbel.out.size, hbel.out.trans (hb1.mono hbel.out.size)⟩
              case measure => simp [intOf]; omega
          · have HF' : Hid (foldN (ls.take (j + 1)) = (ac, tw)) := by
              show _ = _
              rw [HF.out]
              unfold stepN
              rw [if_pos hy0]
            have hy1 : y.toList = [] := by simpa using hy0
            clear HF hfold HX
            go_wp2
            go_roundw
            case rel => exact ⟨j + 1, ac, tw, by omega, by simp, by go_num, HF', hrow, hbel⟩
            case measure => simp [intOf]; omega
        · have hfold' : Hid (foldN ls = (ac, tw)) := by
            have h1 := hfold.out
            rw [List.take_of_length_le (by omega)] at h1
            exact h1
          have HR : Hid (newR ls = if tw = true then ([], 13) else if 64 < ac.length then ([], 15) else (ac, 0)) := by
            show _ = _
            unfold newR
            rw [if_neg (by rw [HA.out]; simp), hfold'.out]
          obtain ⟨av, cv, hvo⟩ := slice_of_row hrow.out
          subst hvo
          clear hfold hfold' HC
          cases tw
          · by_cases h64 : 64 < ac.length
            · have HR' : Hid (newR ls = ([], 15)) := by show _ = _; rw [HR.out, if_neg (by simp), if_pos h64]
              go_wp2
              go_ret2
              refine ⟨.slice none 0 0, by rw [HR'.out]; rfl, ?_, hbel.out⟩
              rw [HR'.out]
              exact World.ownsRow_nil _ _ _ _
            · have HR' : Hid (newR ls = (ac, 0)) := by show _ = _; rw [HR.out, if_neg (by simp), if_neg h64]
              go_wp2
              go_ret2
              refine ⟨_, by rw [HR'.out]; rfl, ?_, hbel.out⟩
              rw [HR'.out]
              exact hrow.out
          · have HR' : Hid (newR ls = ([], 13)) := by show _ = _; rw [HR.out, if_pos rfl]
            go_wp2
            go_ret2
            refine ⟨.slice none 0 0, by rw [HR'.out]; rfl, ?_, hbel.out⟩
            rw [HR'.out]
            exact World.ownsRow_nil _ _ _ _

end Go.Proofs.YtlfcnekmdojabaaDoor
