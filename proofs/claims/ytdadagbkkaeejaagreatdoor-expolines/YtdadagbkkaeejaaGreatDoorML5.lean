/- Texts that belong together. -/
import Derived.Test.YtdadagbkkaeejaaGreatDoorMEx1
import Derived.Test.YtdadagbkkaeejaaGreatDoorMEy0
import Derived.Test.YtdadagbkkaeejaaGreatDoorSh
import Derived.Test.YtdadagbkkaeejaaGreatDoorML7
import Derived.Shelf.SlSortCmp.WholeK
/- Which labels may be in a set: the program's rightLabel and the document's fair answer one plain function. -/
namespace Go.Proofs.YtdadagbkkaeejaaGreatDoor
open Go.RowKit

/-- utf8's two tables, as their initialisers lay them. -/
def Tabs (w : World) : Prop := Lib.Utf8Tabs (Tryz.laysValid_ren.g 3) (Tryz.laysValid_ren.g 4) w ∧ Tryz.laysValid_ren.g 3 < w.heap.size ∧ Tryz.laysValid_ren.g 4 < w.heap.size
theorem Tabs.below {w w' : World} (h : Tabs w) (hb : Below w.heap.size w w') : Tabs w' := by
  have hs := hb.size
  refine ⟨⟨fun c hc => ?_, fun i hi => ⟨?_, ?_⟩⟩, by have := h.2.1; omega, by have := h.2.2; omega⟩
  · rw [hb.cell (p := ⟨_, c, none⟩) h.2.1]; exact h.1.1 c hc
  · rw [hb.cell (p := ⟨_, 2 * i, none⟩) h.2.2]; exact (h.1.2 i hi).1
  · rw [hb.cell (p := ⟨_, 2 * i + 1, none⟩) h.2.2]; exact (h.1.2 i hi).2

def nameTok : List UInt8 := [95, 95, 110, 97, 109, 101, 95, 95]
def valB (s : ByteArray) : Bool := decide (s.size ≤ 1024) && Lib.validD s.data.toList
def fairL (x : Lb) : Bool := wd false x.1 && valB x.2 && (!(x.1.toList == nameTok) || (x.2.toList.isEmpty || wd true x.2))

end Go.Proofs.YtdadagbkkaeejaaGreatDoor

/- The document's New. -/
namespace Go.Proofs.YtdadagbkkaeejaaGreatDoor
open Go.RowKit Go.Maps Go.Sort

def stepN (r : List Lb × Bool) (x : Lb) : List Lb × Bool := if x.2.toList.isEmpty = true then r else (putL r.1 x, r.2 || hasL r.1 x.1)
def foldN (ls : List Lb) : List Lb × Bool := ls.foldl stepN ([], false)
theorem foldN_succ (ls : List Lb) (k : Nat) (hk : k < ls.length) : foldN (ls.take (k + 1)) = stepN (foldN (ls.take k)) ls[k] := by
  unfold foldN
  rw [List.take_succ_eq_append_getElem hk, List.foldl_append]
  rfl
theorem putL_length (ls : List Lb) (x : Lb) : (putL ls x).length = ls.length + 1 := by
  unfold putL
  have := congrArg List.length (List.takeWhile_append_dropWhile (p := lessL x.1) (l := ls))
  simp only [List.length_append, List.length_cons] at *
  omega
theorem foldl_length (ls : List Lb) (r : List Lb × Bool) : (ls.foldl stepN r).1.length ≤ r.1.length + ls.length := by
  induction ls generalizing r with
  | nil => simp
  | cons a t ih =>
    have h := ih (stepN r a)
    have : (stepN r a).1.length ≤ r.1.length + 1 := by
      unfold stepN
      split
      · omega
      · rw [putL_length]; omega
    simp only [List.foldl_cons, List.length_cons]
    omega
theorem foldN_length (ls : List Lb) : (foldN ls).1.length ≤ ls.length := by
  have := foldl_length ls ([], false)
  rw [List.length_nil, Nat.zero_add] at this
  exact this
def newR (ls : List Lb) : List Lb × Int := if ls.all fairL = false then ([], 2) else if (foldN ls).2 = true then ([], 13) else if 64 < (foldN ls).1.length then ([], 15) else ((foldN ls).1, 0)
def Sized (ls : List Lb) : Prop := ∀ i (h : i < ls.length), ls[i].1.size ≤ maxLen ∧ ls[i].2.size ≤ maxLen
def Fair (ls : List Lb) (k : Nat) : Prop := ∀ i (h : i < ls.length), i < k → fairL ls[i] = true
theorem Fair.all {ls : List Lb} (h : Fair ls ls.length) : ls.all fairL = true := by
  rw [List.all_eq_true]
  intro x hx
  obtain ⟨i, hi, rfl⟩ := List.getElem_of_mem hx
  exact h i hi hi
theorem not_all {ls : List Lb} {k : Nat} (hk : k < ls.length) (h : fairL ls[k] = false) : ls.all fairL = false := by
  rw [List.all_eq_false]
  exact ⟨ls[k], List.getElem_mem hk, by rw [h]; simp⟩
end Go.Proofs.YtdadagbkkaeejaaGreatDoor

/- The program's rightLabel; what New's order is. -/
namespace Go.Proofs.YtdadagbkkaeejaaGreatDoor
open Go.RowKit

set_option maxRecDepth 100000 in
set_option maxHeartbeats 1000000 in
theorem rightLabel_any (x : Lb) (w : World) (h2 : x.2.size ≤ maxLen) (hT : Tabs w) :
    Calls Tryz.prog 60 #[.agg #[.string x.1, .string x.2]] w fun e w' => e = .returned (.bool (fairL x)) ∧ Below w.heap.size w w' := by
  obtain ⟨n, v⟩ := x
  unfold maxLen at h2
  dsimp only at h2
  have hb0 : Below w.heap.size w (w.alloc (.cells #[.string n, .string v] 62 (0, 0))) := (Below.refl _ _).alloc (Nat.le_refl _) _
  have hV : Calls Tryz.prog 52 #[.string v] (w.alloc (.cells #[.string n, .string v] 62 (0, 0))) fun e w' => e = .returned (.bool (Lib.validD v.data.toList)) ∧ Below (w.alloc (.cells #[.string n, .string v] 62 (0, 0))).heap.size (w.alloc (.cells #[.string n, .string v] 62 (0, 0))) w' := Any.utf8_ValidString Tryz.laysValid v _ (by omega) (hT.below hb0).1
  have HB : Hid (∀ w', Below (w.alloc (.cells #[.string n, .string v] 62 (0, 0))).heap.size (w.alloc (.cells #[.string n, .string v] 62 (0, 0))) w' → Below w.heap.size w w' ∧ w'.cell? ⟨w.heap.size, 0, none⟩ = some (.string n) ∧ w'.cell? ⟨w.heap.size, 1, none⟩ = some (.string v)) := fun w' hb => by
    refine ⟨hb0.trans (hb.mono (by simp)), ?_, ?_⟩
    · rw [hb.cell (p := ⟨w.heap.size, 0, none⟩) (by simp)]
      exact World.news_of_block (heap_alloc_new w _) 0 _ rfl
    · rw [hb.cell (p := ⟨w.heap.size, 1, none⟩) (by simp)]
      exact World.news_of_block (heap_alloc_new w _) 1 _ rfl
  have HB0 : Hid (Below w.heap.size w (w.alloc (.cells #[.string n, .string v] 62 (0, 0)))) := hb0
  clear hT hb0
  have hR1 := fun W => rightName_any n W
  have hR3 := fun W => rightMetric_any v W
  unfold fairL valB
  dsimp only
  generalize wd false n = r1 at *
  generalize wd true v = r3 at *
  generalize Lib.validD v.data.toList = r2 at *
  cases r1
  · go_enter Tryz.func60, Tryz.ntmps60
    go_wp2_with (go_at_call 78; refine (hR1 _).mono ?_; rintro e w' ⟨rfl, rfl⟩)
    go_ret
    exact ⟨rfl, HB0.out⟩
  by_cases h1024 : v.size ≤ 1024
  · have e1024 : decide (v.size ≤ 1024) = true := by simp [h1024]
    rw [e1024]
    cases r2
    · go_enter Tryz.func60, Tryz.ntmps60
      go_wp2_with (first | (go_at_call 78; refine (hR1 _).mono ?_; rintro e w' ⟨rfl, rfl⟩) | (go_at_call 52; refine hV.mono ?_; rintro e w1 ⟨rfl, hb1⟩; obtain ⟨hb2, hc0, hc1⟩ := HB.out _ hb1))
      go_ret
      exact ⟨rfl, hb2⟩
    · cases hn : n.toList == nameTok
      · have hn' : (n.toList == [95, 95, 110, 97, 109, 101, 95, 95]) = false := hn
        go_enter Tryz.func60, Tryz.ntmps60
        go_wp2_with (first | (go_at_call 78; refine (hR1 _).mono ?_; rintro e w' ⟨rfl, rfl⟩) | (go_at_call 52; refine hV.mono ?_; rintro e w1 ⟨rfl, hb1⟩; obtain ⟨hb2, hc0, hc1⟩ := HB.out _ hb1))
        all_goals (go_ret; exact ⟨by simp, hb2⟩)
      · have hn' : (n.toList == [95, 95, 110, 97, 109, 101, 95, 95]) = true := hn
        cases hv : v.toList.isEmpty
        · go_enter Tryz.func60, Tryz.ntmps60
          go_wp2_with (first | (go_at_call 78; refine (hR1 _).mono ?_; rintro e w' ⟨rfl, rfl⟩) | (go_at_call 52; refine hV.mono ?_; rintro e w1 ⟨rfl, hb1⟩; obtain ⟨hb2, hc0, hc1⟩ := HB.out _ hb1) | (go_at_call 79; refine (hR3 _).mono ?_; rintro e w' ⟨rfl, rfl⟩))
          all_goals (go_ret; exact ⟨by simp, hb2⟩)
        · go_enter Tryz.func60, Tryz.ntmps60
          go_wp2_with (first | (go_at_call 78; refine (hR1 _).mono ?_; rintro e w' ⟨rfl, rfl⟩) | (go_at_call 52; refine hV.mono ?_; rintro e w1 ⟨rfl, hb1⟩; obtain ⟨hb2, hc0, hc1⟩ := HB.out _ hb1))
          all_goals (go_ret; exact ⟨by simp, hb2⟩)
  · have e1024 : decide (v.size ≤ 1024) = false := by simp [h1024]
    have h' : (1024 : Int) < (v.size : Int) := by omega
    rw [e1024]
    go_enter Tryz.func60, Tryz.ntmps60
    go_wp2_with (go_at_call 78; refine (hR1 _).mono ?_; rintro e w' ⟨rfl, rfl⟩)
    go_ret
    exact ⟨rfl, HB0.out⟩

end Go.Proofs.YtdadagbkkaeejaaGreatDoor

/- Labels, sorted by their names. -/
namespace Go.Proofs.YtdadagbkkaeejaaGreatDoor
open Go.RowKit Go.Sort Go.Shelf

def encL (x : Lb) : List Value := [.string x.1, .string x.2]
def cmpS (a b : ByteArray) : Int := if Op.bytesLess a.toList b.toList = true then -1 else if (Op.bytesLess a.toList b.toList || a.toList == b.toList) = true then 0 else 1
def cf (x y : Lb) : Int := cmpS x.1 y.1
theorem ltOf_cf (x y : Lb) : ltOf cf x y = decide (x.1.toList < y.1.toList) := by
  unfold ltOf cf cmpS
  rw [bytesLess_eq]
  by_cases h : x.1.toList < y.1.toList
  · simp [h]
  · simp [h]
    split <;> omega
theorem swo_cf : SWO (ltOf cf) where
  irrefl x := by rw [ltOf_cf]; simp [List.lt_irrefl]
  trans x y z h1 h2 := by
    rw [ltOf_cf] at *
    simp only [decide_eq_true_eq] at *
    exact List.lt_trans h1 h2
  ntrans x y z h1 h2 := by
    rw [ltOf_cf] at *
    simp only [decide_eq_false_iff_not, List.not_lt] at *
    exact List.le_trans h2 h1

set_option maxHeartbeats 1000000 in
theorem isNaN_any (x : ByteArray) (w : World) : Calls Tryz.prog 82 #[.string x] w fun e w' => e = .returned (.bool false) ∧ w' = w := by
  go_enter Tryz.func82, Tryz.ntmps82
  go_wp2
  go_ret
  exact ⟨by simp, rfl⟩

set_option maxHeartbeats 1000000 in
theorem compare_any (x y : ByteArray) (w : World) : Calls Tryz.prog 63 #[.string x, .string y] w fun e w' => e = .returned (.int .i64 (cmpS x y)) ∧ w' = w := by
  unfold cmpS
  cases h1 : Op.bytesLess x.toList y.toList
  · cases h2 : x.toList == y.toList
    · go_enter Tryz.func63, Tryz.ntmps63
      go_wp2_with (go_at_call 82; refine (isNaN_any _ _).mono ?_; rintro e w' ⟨rfl, rfl⟩)
      go_ret
      exact ⟨rfl, rfl⟩
    · go_enter Tryz.func63, Tryz.ntmps63
      go_wp2_with (go_at_call 82; refine (isNaN_any _ _).mono ?_; rintro e w' ⟨rfl, rfl⟩)
      go_ret
      exact ⟨rfl, rfl⟩
  · go_enter Tryz.func63, Tryz.ntmps63
    go_wp2_with (go_at_call 82; refine (isNaN_any _ _).mono ?_; rintro e w' ⟨rfl, rfl⟩)
    go_ret
    exact ⟨rfl, rfl⟩

set_option maxHeartbeats 1000000 in
theorem closure_any (x y : Lb) (W : World) : Calls Tryz.prog 62 #[.agg #[.string x.1, .string x.2], .agg #[.string y.1, .string y.2]] W fun e w' => e = .returned (.int .i64 (cf x y)) ∧ ∃ q os', w' = grow (W.drewN q) os' := by
  have hcon := fun W' => compare_any x.1 y.1 W'
  unfold cf
  generalize cmpS x.1 y.1 = r at hcon ⊢
  go_enter Tryz.func62, Tryz.ntmps62
  go_wp2_with (go_at_call 63; refine (hcon _).mono ?_; rintro e w' ⟨rfl, rfl⟩)
  go_ret
  exact ⟨rfl, 0, _, by rw [alloc_eq_grow, alloc_eq_grow, grow_grow]; rfl⟩

theorem cmpLays (blk off size : Nat) (w : World) : CmpLays Tryz.prog 62 #[] encL 2 cf blk off size w := fun _ _ _ _ x y => closure_any x y _

theorem flatL (ls : List Lb) : flatK encL 2 ls.toArray = (lbCells ls).toArray := by
  refine ext_get! (by simp [lbCells_length]) fun t ht => ?_
  have ht' : t < ls.length * 2 := by simpa using ht
  have hk : t / 2 < ls.length := by omega
  rw [get_flatK _ _ _ t (by simpa using ht')]
  have e1 : ls.toArray[t / 2]! = ls[t / 2] := by simp [hk]
  have h3 := lbCells_at ls (t / 2) hk
  rw [e1]
  have e2 : (lbCells ls).toArray[t]! = ((lbCells ls)[t]?).getD default := by simp [getElem!_def]; cases (lbCells ls)[t]? <;> rfl
  rw [e2]
  rcases Nat.mod_two_eq_zero_or_one t with hm | hm
  · have ej : t = t / 2 * 2 := by omega
    rw [hm]
    conv => rhs; rw [ej]
    rw [h3.1]
    rfl
  · have ej : t = t / 2 * 2 + 1 := by omega
    rw [hm]
    conv => rhs; rw [ej]
    rw [h3.2]
    rfl

theorem holdsL {w : World} {g : Nat} {cur : Array Value} {e : TypeId} {ls : List Lb} (hb : w.heap[g]? = some (.cells cur e (0, 0))) (ht : cur.toList.take (ls.length * 2) = lbCells ls) : HoldsK encL 2 w g 0 ls.toArray := by
  unfold HoldsK
  rw [flatL]
  intro j hj
  have hj' : j < (lbCells ls).length := by simpa using hj
  refine ⟨?_, by simp [World.frozen?, hb]⟩
  have h1 : (cur.toList.take (ls.length * 2))[j]? = (lbCells ls)[j]? := by rw [ht]
  rw [List.getElem?_take_of_lt (by rw [lbCells_length] at hj'; exact hj')] at h1
  simp only [World.cell?, hb, Nat.zero_add]
  rw [Array.getElem?_toList] at h1
  rw [h1, List.getElem?_eq_getElem hj']
  simp [hj']

theorem heapL {w : World} {g n : Nat} {os : Array Obj} {cur : Array Value} {e : TypeId} {fr : Nat × Nat} (ls : List Lb) (hb : w.heap[g]? = some (.cells cur e fr)) :
    (sortWorldK encL 2 w g 0 n ls.toArray os).heap[g]? = some (.cells (putCells id 0 (lbCells ls).toArray cur) e fr) := by
  have hg : g < w.heap.size := (Array.getElem?_eq_some_iff.1 hb).1
  unfold sortWorldK putRowK
  rw [flatL, heap_grow_old _ _ (by simpa using hg)]
  simp [putRow, mapBlock, Sort.ahead, Array.getElem?_modify, hb, onCells]
theorem grownL {w : World} {g n : Nat} {os : Array Obj} (d : Array Lb) : w.grownBy (sortWorldK encL 2 w g 0 n d os) (some g) := by
  unfold sortWorldK putRowK
  refine ⟨rfl, rfl, rfl, by simp, fun k hk hne => ?_⟩
  rw [heap_grow_old _ _ (by simpa using hk)]
  have : g ≠ k := fun e => hne (by rw [e])
  simp [putRow, mapBlock, Sort.ahead, Array.getElem?_modify, this]
theorem takeL (cur : Array Value) (ts : List Value) (h : ts.length ≤ cur.size) : (putCells id 0 ts.toArray cur).toList.take ts.length = ts := by
  apply List.ext_getElem?
  intro j
  by_cases hj : j < ts.length
  · rw [List.getElem?_take_of_lt hj, Array.getElem?_toList]
    simp [putCells, hj, show j < cur.size by omega]
  · rw [List.getElem?_take_eq_none (by omega), List.getElem?_eq_none (by omega)]

/-- Sorted by name: no later one is less. -/
def SortedL (ls : List Lb) : Prop := ls.Pairwise fun x y => ¬ y.1.toList < x.1.toList

set_option maxHeartbeats 1000000 in
/-- slices.SortFunc by New's order: the same slice has the same labels, sorted by name. -/
theorem sort_any (v : Value) (ls : List Lb) (w : World) (base : Nat) (h : w.ownsRow base 62 2 v ls.length (lbCells ls)) (hn : v ≠ .slice none 0 0) (hl : ls.length ≤ 1000000) :
    Calls Tryz.prog 61 #[v, .func (.func 62) #[] #[]] w fun e w' => e = .returned (.tuple #[]) ∧ ∃ ls' : List Lb, ls'.Perm ls ∧ SortedL ls' ∧ w'.ownsRow base 62 2 v ls'.length (lbCells ls') ∧ Below base w w' := by
  rcases h.2 with ⟨hnil, _⟩ | ⟨g, cap, cur, rfl, hbase, hb, h1, h2, h3, h4⟩
  · exact absurd hnil hn
  have eg : ∀ args w, (callFunc 62 args).run Tryz.prog w = .ok (.enter 62 args) w := enters_of Tryz.func62 (by kernel_rfl) rfl
  have hgl : g < w.heap.size := (Array.getElem?_eq_some_iff.1 hb).1
  have hcon := AnyQ.slices_SortFunc Tryz.sortLb 2 Tryz.isAgg62 Tryz.sizeOf62 encL (fun _ => rfl) (fun x v hv => by simp [encL] at hv; rcases hv with rfl | rfl <;> rfl) cf swo_cf 62 #[] g 0 cap ls.toArray w eg (cmpLays g 0 _ w) (holdsL hb h4) hgl (by simp; omega)
  change Calls Tryz.prog 61 _ _ _ at hcon
  have es : ls.toArray.size = ls.length := by simp
  rw [es] at hcon
  refine hcon.mono ?_
  rintro e w' ⟨rfl, d', n, os, hp, hs, rfl⟩
  obtain ⟨hp1, hp2, hp3⟩ := hp
  have hd : d'.size = ls.length := by rw [hp1]; simp
  have ex : d'.extract 0 ls.length = d' := by rw [← hd]; simp
  have ex2 : ls.toArray.extract 0 ls.length = ls.toArray := by rw [← es]; simp
  rw [ex, ex2] at hp3
  have hl' : d'.toList.length = ls.length := by simpa using hd
  have hd' : d' = d'.toList.toArray := by simp
  refine ⟨rfl, d'.toList, by simpa using hp3, ?_, ?_, ?_⟩
  · unfold SortedL
    rw [List.pairwise_iff_getElem]
    intro i j hi hj hij
    have := hs i j (Nat.zero_le _) hij (by omega)
    rw [ltOf_cf, decide_eq_false_iff_not] at this
    have e1 : d'[i]! = d'.toList[i] := by rw [getElem!_pos d' i (by simpa using hi)]; simp
    have e2 : d'[j]! = d'.toList[j] := by rw [getElem!_pos d' j (by simpa using hj)]; simp
    rw [e1, e2] at this
    exact this
  · rw [hl']
    refine ⟨by rw [lbCells_length, hl'], Or.inr ⟨g, cap, putCells id 0 (lbCells d'.toList).toArray cur, rfl, hbase, ?_, h1, h2, ?_, ?_⟩⟩
    · have := heapL (n := n) (os := os) d'.toList hb
      rw [← hd'] at this
      exact this
    · simp [putCells, h3]
    · have := takeL cur (lbCells d'.toList) (by rw [lbCells_length, hl', h3]; exact Nat.mul_le_mul_right _ h1)
      rw [lbCells_length, hl'] at this
      exact this
  · exact (Below.refl _ _).grown (grownL _) (by omega) (fun j hj => by cases hj; exact hbase)

end Go.Proofs.YtdadagbkkaeejaaGreatDoor
