/- Spans, sorted by where they begin. -/
import Derived.Test.YtmbkcmfcdjccoaaDoorMP7
namespace Go.Proofs.YtmbkcmfcdjccoaaDoor
open Go.RowKit Go.Sort Go.Shelf

def encS (x : Sp) : List Value := [.int .i32 x.1, .int .i32 x.2]
def cmpI (a b : Int) : Int := if a < b then -1 else if b < a then 1 else 0
def cf (x y : Sp) : Int := cmpI x.1 y.1
theorem ltOf_cf (x y : Sp) : ltOf cf x y = decide (x.1 < y.1) := by
  unfold ltOf cf cmpI
  by_cases h : x.1 < y.1
  · simp [h]
  · simp [h]
    split <;> omega
theorem swo_cf : SWO (ltOf cf) where
  irrefl x := by rw [ltOf_cf]; simp
  trans x y z h1 h2 := by
    rw [ltOf_cf] at *
    simp only [decide_eq_true_eq] at *
    omega
  ntrans x y z h1 h2 := by
    rw [ltOf_cf] at *
    simp only [decide_eq_false_iff_not] at *
    omega

set_option maxHeartbeats 1000000 in
theorem isNaN_any (x : Int) (w : World) : Calls Tryd.prog 76 #[.int .i32 x] w fun e w' => e = .returned (.bool false) ∧ w' = w := by
  go_enter Tryd.func76, Tryd.ntmps76
  go_wp2
  go_ret
  exact ⟨by simp, rfl⟩

set_option maxHeartbeats 1000000 in
theorem compare_any (x y : Int) (w : World) : Calls Tryd.prog 70 #[.int .i32 x, .int .i32 y] w fun e w' => e = .returned (.int .i64 (cmpI x y)) ∧ w' = w := by
  unfold cmpI
  by_cases h1 : x < y
  · rw [if_pos h1]
    go_enter Tryd.func70, Tryd.ntmps70
    go_wp2_with (go_at_call 76; refine (isNaN_any _ _).mono ?_; rintro e w' ⟨rfl, rfl⟩)
    go_ret
    exact ⟨rfl, rfl⟩
  · rw [if_neg h1]
    by_cases h2 : y < x
    · rw [if_pos h2]
      go_enter Tryd.func70, Tryd.ntmps70
      go_wp2_with (go_at_call 76; refine (isNaN_any _ _).mono ?_; rintro e w' ⟨rfl, rfl⟩)
      go_ret
      exact ⟨rfl, rfl⟩
    · rw [if_neg h2]
      go_enter Tryd.func70, Tryd.ntmps70
      go_wp2_with (go_at_call 76; refine (isNaN_any _ _).mono ?_; rintro e w' ⟨rfl, rfl⟩)
      go_ret
      exact ⟨rfl, rfl⟩

set_option maxHeartbeats 1000000 in
theorem closure_any (x y : Sp) (W : World) : Calls Tryd.prog 69 #[.agg #[.int .i32 x.1, .int .i32 x.2], .agg #[.int .i32 y.1, .int .i32 y.2]] W fun e w' => e = .returned (.int .i64 (cf x y)) ∧ ∃ q os', w' = grow (W.drewN q) os' := by
  have hcon := fun W' => compare_any x.1 y.1 W'
  unfold cf
  generalize cmpI x.1 y.1 = r at hcon ⊢
  go_enter Tryd.func69, Tryd.ntmps69
  go_wp2_with (go_at_call 70; refine (hcon _).mono ?_; rintro e w' ⟨rfl, rfl⟩)
  go_ret
  exact ⟨rfl, 0, _, by rw [alloc_eq_grow, alloc_eq_grow, grow_grow]; rfl⟩

theorem cmpLays (blk off size : Nat) (w : World) : CmpLays Tryd.prog 69 #[] encS 2 cf blk off size w := fun _ _ _ _ x y => closure_any x y _

theorem flatL (ls : List Sp) : flatK encS 2 ls.toArray = (spC ls).toArray := by
  refine ext_get! (by simp [spC_length]) fun t ht => ?_
  have ht' : t < ls.length * 2 := by simpa using ht
  have hk : t / 2 < ls.length := by omega
  rw [get_flatK _ _ _ t (by simpa using ht')]
  have e1 : ls.toArray[t / 2]! = ls[t / 2] := by simp [hk]
  have h3 := spC_get ls (t / 2) hk
  rw [e1]
  have e2 : (spC ls).toArray[t]! = ((spC ls)[t]?).getD default := by simp [getElem!_def]; cases (spC ls)[t]? <;> rfl
  rw [e2]
  rcases Nat.mod_two_eq_zero_or_one t with hm | hm
  · have ej : t = t / 2 * 2 := by omega
    rw [hm]
    conv => rhs; rw [ej]
    rw [h3.1]
    rfl
  · have ej : t = t / 2 * 2 + 1 := by omega
    rw [hm]
    conv => rhs; rw [ej]
    rw [h3.2]
    rfl

theorem holdsL {w : World} {g : Nat} {cur : Array Value} {e : TypeId} {ls : List Sp} (hb : w.heap[g]? = some (.cells cur e (0, 0))) (ht : cur.toList.take (ls.length * 2) = spC ls) : HoldsK encS 2 w g 0 ls.toArray := by
  unfold HoldsK
  rw [flatL]
  intro j hj
  have hj' : j < (spC ls).length := by simpa using hj
  refine ⟨?_, by simp [World.frozen?, hb]⟩
  have h1 : (cur.toList.take (ls.length * 2))[j]? = (spC ls)[j]? := by rw [ht]
  rw [List.getElem?_take_of_lt (by rw [spC_length] at hj'; exact hj')] at h1
  simp only [World.cell?, hb, Nat.zero_add]
  rw [Array.getElem?_toList] at h1
  rw [h1, List.getElem?_eq_getElem hj']
  simp [hj']

theorem heapL {w : World} {g n : Nat} {os : Array Obj} {cur : Array Value} {e : TypeId} {fr : Nat × Nat} (ls : List Sp) (hb : w.heap[g]? = some (.cells cur e fr)) :
    (sortWorldK encS 2 w g 0 n ls.toArray os).heap[g]? = some (.cells (putCells id 0 (spC ls).toArray cur) e fr) := by
  have hg : g < w.heap.size := (Array.getElem?_eq_some_iff.1 hb).1
  unfold sortWorldK putRowK
  rw [flatL, heap_grow_old _ _ (by simpa using hg)]
  simp [putRow, mapBlock, Sort.ahead, Array.getElem?_modify, hb, onCells]
theorem grownL {w : World} {g n : Nat} {os : Array Obj} (d : Array Sp) : w.grownBy (sortWorldK encS 2 w g 0 n d os) (some g) := by
  unfold sortWorldK putRowK
  refine ⟨rfl, rfl, rfl, by simp, fun k hk hne => ?_⟩
  rw [heap_grow_old _ _ (by simpa using hk)]
  have : g ≠ k := fun e => hne (by rw [e])
  simp [putRow, mapBlock, Sort.ahead, Array.getElem?_modify, this]
theorem takeL (cur : Array Value) (ts : List Value) (h : ts.length ≤ cur.size) : (putCells id 0 ts.toArray cur).toList.take ts.length = ts := by
  apply List.ext_getElem?
  intro j
  by_cases hj : j < ts.length
  · rw [List.getElem?_take_of_lt hj, Array.getElem?_toList]
    simp [putCells, hj, show j < cur.size by omega]
  · rw [List.getElem?_take_eq_none (by omega), List.getElem?_eq_none (by omega)]

/-- Sorted by where they begin. -/
def SortedS (ls : List Sp) : Prop := ls.Pairwise fun x y => ¬ y.1 < x.1

set_option maxHeartbeats 1000000 in
/-- slices.SortFunc by tidy's order: the same slice has the same spans, sorted by where they begin. -/
theorem sortSp_any (v : Value) (ls : List Sp) (w : World) (base : Nat) (h : w.ownsRow base 104 2 v ls.length (spC ls)) (hn : v ≠ .slice none 0 0) (hl : ls.length ≤ 1000000) :
    Calls Tryd.prog 68 #[v, .func (.func 69) #[] #[]] w fun e w' => e = .returned (.tuple #[]) ∧ ∃ ls' : List Sp, ls'.Perm ls ∧ SortedS ls' ∧ w'.ownsRow base 104 2 v ls'.length (spC ls') ∧ Below base w w' := by
  rcases h.2 with ⟨hnil, _⟩ | ⟨g, cap, cur, rfl, hbase, hb, h1, h2, h3, h4⟩
  · exact absurd hnil hn
  have eg : ∀ args w, (callFunc 69 args).run Tryd.prog w = .ok (.enter 69 args) w := enters_of Tryd.func69 (by kernel_rfl) rfl
  have hgl : g < w.heap.size := (Array.getElem?_eq_some_iff.1 hb).1
  have hcon := AnyQ.slices_SortFunc Tryd.sortSp 2 Tryd.isAgg104 Tryd.sizeOf104 encS (fun _ => rfl) (fun x v hv => by simp [encS] at hv; rcases hv with rfl | rfl <;> rfl) cf swo_cf 69 #[] g 0 cap ls.toArray w eg (cmpLays g 0 _ w) (holdsL hb h4) hgl (by simp; omega)
  change Calls Tryd.prog 68 _ _ _ at hcon
  have es : ls.toArray.size = ls.length := by simp
  rw [es] at hcon
  refine hcon.mono ?_
  rintro e w' ⟨rfl, d', n, os, hp, hs, rfl⟩
  obtain ⟨hp1, hp2, hp3⟩ := hp
  have hd : d'.size = ls.length := by rw [hp1]; simp
  have ex : d'.extract 0 ls.length = d' := by rw [← hd]; simp
  have ex2 : ls.toArray.extract 0 ls.length = ls.toArray := by rw [← es]; simp
  rw [ex, ex2] at hp3
  have hl' : d'.toList.length = ls.length := by simpa using hd
  have hd' : d' = d'.toList.toArray := by simp
  refine ⟨rfl, d'.toList, by simpa using hp3, ?_, ?_, ?_⟩
  · unfold SortedS
    rw [List.pairwise_iff_getElem]
    intro i j hi hj hij
    have := hs i j (Nat.zero_le _) hij (by omega)
    rw [ltOf_cf, decide_eq_false_iff_not] at this
    have e1 : d'[i]! = d'.toList[i] := by rw [getElem!_pos d' i (by simpa using hi)]; simp
    have e2 : d'[j]! = d'.toList[j] := by rw [getElem!_pos d' j (by simpa using hj)]; simp
    rw [e1, e2] at this
    exact this
  · rw [hl']
    refine ⟨by rw [spC_length, hl'], Or.inr ⟨g, cap, putCells id 0 (spC d'.toList).toArray cur, rfl, hbase, ?_, h1, h2, ?_, ?_⟩⟩
    · have := heapL (n := n) (os := os) d'.toList hb
      rw [← hd'] at this
      exact this
    · simp [putCells, h3]
    · have := takeL cur (spC d'.toList) (by rw [spC_length, hl', h3]; exact Nat.mul_le_mul_right _ h1)
      rw [spC_length, hl'] at this
      exact this
  · exact (Below.refl _ _).grown (grownL _) (by omega) (fun j hj => by cases hj; exact hbase)

end Go.Proofs.YtmbkcmfcdjccoaaDoor
