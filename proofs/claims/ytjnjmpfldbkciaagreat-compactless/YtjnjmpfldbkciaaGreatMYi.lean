/- Texts that belong together. -/
import Derived.Shelf.SlSortCmp.InsertionK
import Derived.Ground.SlsfProg
import Derived.Test.YtjnjmpfldbkciaaGreatProg
import Derived.Test.YtjnjmpfldbkciaaGreatYc
/-
  DERIVED: THE SHELF's CONTRACTS AT THIS DUMP, IN PLAIN WORDS (tools/lay-plain.mjs out of 'YtjnjmpfldbkciaaGreatYi.lean', which tools/lay-shelf.mjs wrote): THE SAME DECLARATIONS UNDER THE SAME NAMES: 'import', 'namespace', 'open', 'def', 'theorem' AND NOTHING ELSE: no command of the shelf's: FOR A HAND-IN. Each laying: the table of numbers ('.._ren') and one theorem, a field a fact of the dump's own or the kernel's comparison; each contract: ONE APPLICATION.
-/
namespace Go.Proofs
open Go.Shelf
def Tryz.insSm_ren : Go.Shelf.Ren := ⟨fun | 20 => 101 | n => n, fun | 24 => 42 | 22 => 34 | 3 => 3 | 25 => 108 | 4 => 4 | 0 => 0 | n => n, fun | n => n⟩
theorem Tryz.insSm : Go.Proofs.SlLaysF0.n20 Tryz.prog Tryz.insSm_ren := {
  mixed := by kernel_rfl
  f20 := ⟨Tryz.f101.name, by decide, Tryz.func101.trans (congrArg some (by kernel_rfl))⟩
  t0 := Tryz.underlying0
  a0 := Tryz.isAgg0
  z0 := Tryz.sizeOf0
  v0 := Tryz.zeroValue0
  t3 := Tryz.underlying3
  a3 := Tryz.isAgg3
  z3 := Tryz.sizeOf3
  v3 := Tryz.zeroValue3
  t4 := Tryz.underlying4
  a4 := Tryz.isAgg4
  z4 := Tryz.sizeOf4
  v4 := Tryz.zeroValue4
  t22 := Tryz.underlying34
  a22 := Tryz.isAgg34
  z22 := Tryz.sizeOf34
  v22 := Tryz.zeroValue34
  t25 := Tryz.underlying108
  a25 := Tryz.isAgg108
  z25 := Tryz.sizeOf108
  v25 := Tryz.zeroValue108 }
end Go.Proofs

/- slices.SortStableFunc of samples. -/
namespace Go.Proofs.YtjnjmpfldbkciaaGreat
open Go.RowKit Go.Sort Go.Shelf Go.Lib

def encS (x : Sm) : List Value := [.int .i64 x.1, .float .f64 x.2]
def cmpI (a b : Int) : Int := if a < b then -1 else if b < a then 1 else 0
def cfS (x y : Sm) : Int := cmpI x.1 y.1

set_option maxHeartbeats 1000000 in
theorem isNaNI (x : Int) (w : World) : Calls Tryz.prog 41 #[.int .i64 x] w fun e w' => e = .returned (.bool false) ∧ w' = w := by
  go_enter Tryz.func41, Tryz.ntmps41
  go_wp2
  go_ret
  exact ⟨by simp, rfl⟩
set_option maxHeartbeats 1000000 in
theorem compareI (x y : Int) (w : World) : Calls Tryz.prog 24 #[.int .i64 x, .int .i64 y] w fun e w' => e = .returned (.int .i64 (cmpI x y)) ∧ w' = w := by
  unfold cmpI
  by_cases h1 : x < y
  · go_enter Tryz.func24, Tryz.ntmps24
    go_wp2_with (go_at_call 41; refine (isNaNI _ _).mono ?_; rintro e w' ⟨rfl, rfl⟩)
    go_ret
    exact ⟨by simp, rfl⟩
  · by_cases h2 : y < x
    · go_enter Tryz.func24, Tryz.ntmps24
      go_wp2_with (go_at_call 41; refine (isNaNI _ _).mono ?_; rintro e w' ⟨rfl, rfl⟩)
      go_ret
      exact ⟨by simp, rfl⟩
    · go_enter Tryz.func24, Tryz.ntmps24
      go_wp2_with (go_at_call 41; refine (isNaNI _ _).mono ?_; rintro e w' ⟨rfl, rfl⟩)
      go_ret
      exact ⟨by simp, rfl⟩
set_option maxHeartbeats 1000000 in
theorem closureS (x y : Sm) (W : World) : Calls Tryz.prog 87 #[.agg #[.int .i64 x.1, .float .f64 x.2], .agg #[.int .i64 y.1, .float .f64 y.2]] W fun e w' => e = .returned (.int .i64 (cfS x y)) ∧ ∃ q os', w' = grow (W.drewN q) os' := by
  have hcon := fun W' => compareI x.1 y.1 W'
  unfold cfS
  generalize cmpI x.1 y.1 = r at hcon ⊢
  go_enter Tryz.func87, Tryz.ntmps87
  go_wp2_with (go_at_call 24; refine (hcon _).mono ?_; rintro e w' ⟨rfl, rfl⟩)
  go_ret
  exact ⟨rfl, 0, _, by rw [alloc_eq_grow, alloc_eq_grow, grow_grow]; rfl⟩

theorem cmpLaysS (blk off size : Nat) (w : World) : CmpLays Tryz.prog 87 #[] encS 2 cfS blk off size w := fun _ _ _ _ x y => closureS x y _

theorem flatS (ls : List Sm) : flatK encS 2 ls.toArray = (smC ls).toArray := by
  refine ext_get! (by simp [smC_length]) fun t ht => ?_
  have ht' : t < ls.length * 2 := by simpa using ht
  have hk : t / 2 < ls.length := by omega
  rw [get_flatK _ _ _ t (by simpa using ht')]
  have e1 : ls.toArray[t / 2]! = ls[t / 2] := by simp [hk]
  have h3 := smC_at ls (t / 2) hk
  rw [e1]
  have e2 : (smC ls).toArray[t]! = ((smC ls)[t]?).getD default := by simp [getElem!_def]; cases (smC ls)[t]? <;> rfl
  rw [e2]
  rcases Nat.mod_two_eq_zero_or_one t with hm | hm
  · have ej : t = t / 2 * 2 := by omega
    rw [hm]
    conv => rhs; rw [ej]
    rw [h3.1]
    rfl
  · have ej : t = t / 2 * 2 + 1 := by omega
    rw [hm]
    conv => rhs; rw [ej]
    rw [h3.2]
    rfl

theorem holdsS {w : World} {g : Nat} {cur : Array Value} {e : TypeId} {ls : List Sm} (hb : w.heap[g]? = some (.cells cur e (0, 0))) (ht : cur.toList.take (ls.length * 2) = smC ls) : HoldsK encS 2 w g 0 ls.toArray := by
  unfold HoldsK
  rw [flatS]
  intro j hj
  have hj' : j < (smC ls).length := by simpa using hj
  refine ⟨?_, by simp [World.frozen?, hb]⟩
  have h1 : (cur.toList.take (ls.length * 2))[j]? = (smC ls)[j]? := by rw [ht]
  rw [List.getElem?_take_of_lt (by rw [smC_length] at hj'; exact hj')] at h1
  simp only [World.cell?, hb, Nat.zero_add]
  rw [Array.getElem?_toList] at h1
  rw [h1, List.getElem?_eq_getElem hj']
  simp [hj']

theorem heapS {w : World} {g n : Nat} {os : Array Obj} {cur : Array Value} {e : TypeId} {fr : Nat × Nat} (ls : List Sm) (hb : w.heap[g]? = some (.cells cur e fr)) :
    (sortWorldK encS 2 w g 0 n ls.toArray os).heap[g]? = some (.cells (putCells id 0 (smC ls).toArray cur) e fr) := by
  have hg : g < w.heap.size := (Array.getElem?_eq_some_iff.1 hb).1
  unfold sortWorldK putRowK
  rw [flatS, heap_grow_old _ _ (by simpa using hg)]
  simp [putRow, mapBlock, Sort.ahead, Array.getElem?_modify, hb, onCells]
theorem grownS {w : World} {g n : Nat} {os : Array Obj} (d : Array Sm) : w.grownBy (sortWorldK encS 2 w g 0 n d os) (some g) := by
  unfold sortWorldK putRowK
  refine ⟨rfl, rfl, rfl, by simp, fun k hk hne => ?_⟩
  rw [heap_grow_old _ _ (by simpa using hk)]
  have : g ≠ k := fun e => hne (by rw [e])
  simp [putRow, mapBlock, Sort.ahead, Array.getElem?_modify, this]
theorem takeS (cur : Array Value) (ts : List Value) (h : ts.length ≤ cur.size) : (putCells id 0 ts.toArray cur).toList.take ts.length = ts := by
  apply List.ext_getElem?
  intro j
  by_cases hj : j < ts.length
  · rw [List.getElem?_take_of_lt hj, Array.getElem?_toList]
    simp [putCells, hj, show j < cur.size by omega]
  · rw [List.getElem?_take_eq_none (by omega), List.getElem?_eq_none (by omega)]


theorem ltS (x y : Sm) : ltOf cfS x y = decide (x.1 < y.1) := by
  unfold ltOf cfS cmpI
  by_cases h : x.1 < y.1
  · simp [h]
  · simp [h]
    split <;> omega
theorem swoS : SWO (ltOf cfS) where
  irrefl x := by rw [ltS]; simp
  trans x y z h1 h2 := by
    rw [ltS] at *
    simp only [decide_eq_true_eq] at *
    omega
  ntrans x y z h1 h2 := by
    rw [ltS] at *
    simp only [decide_eq_false_iff_not] at *
    omega
/-- The samples in the order in which insertion leaves them. -/
def insS (xs : List Sm) : List Sm := (Sort.insertionSort (ltOf cfS) xs.toArray 0 xs.length).toList

theorem insSm_any (n : Nat) (g c : Nat) (xs : List Sm) (w : World) (base : Nat) (hn : xs.length = n) (h : w.ownsRow base 42 2 (.slice (some ⟨g, 0, none⟩) n c) n (smC xs)) (hl : n ≤ 1000000) :
    Calls Tryz.prog 101 #[.slice (some ⟨g, 0, none⟩) n c, .int .i64 0, .int .i64 n, .func (.func 87) #[] #[]] w fun e w' => e = .returned (.tuple #[]) ∧ w'.ownsRow base 42 2 (.slice (some ⟨g, 0, none⟩) n c) n (smC (insS xs)) ∧ Kept (fun i => i = g) w w' := by
  subst hn
  rcases h.2 with ⟨hnil, _⟩ | ⟨g', cap, cur, e9, hbase, hb, h1, h2, h3, h4⟩
  · cases hnil
  cases e9
  have eg : ∀ args w, (callFunc 87 args).run Tryz.prog w = .ok (.enter 87 args) w := enters_of Tryz.func87 (by kernel_rfl) rfl
  have hgl : g < w.heap.size := (Array.getElem?_eq_some_iff.1 hb).1
  have hcon := AnyQ.insertionSortCmpFunc Tryz.insSm 2 Tryz.isAgg42 Tryz.sizeOf42 encS (fun _ => rfl) (fun x v hv => by simp [encS] at hv; rcases hv with rfl | rfl <;> rfl) cfS 87 #[] g 0 c 0 xs.length xs.toArray w eg (cmpLaysS g 0 _ w) (holdsS hb h4) hgl (by omega) (by simp) (by simp; omega)
  change Calls Tryz.prog 101 _ _ _ at hcon
  have es : xs.toArray.size = xs.length := by simp
  rw [es] at hcon
  refine hcon.mono ?_
  rintro e w' ⟨rfl, n, os, rfl⟩
  obtain ⟨d', hd'⟩ : ∃ d', Sort.insertionSort (ltOf cfS) xs.toArray 0 xs.length = d' := ⟨_, rfl⟩
  have hd : d'.size = xs.length := by
    have h9 := (Sort.insertionSort_holds swoS xs.toArray 0 xs.length (Nat.zero_le _) (by simp)).1.1
    rw [hd'] at h9
    simpa using h9
  have e1 : insS xs = d'.toList := by unfold insS; rw [hd']
  rw [e1, hd']
  have hl' : d'.toList.length = xs.length := by simpa using hd
  have hda : d' = d'.toList.toArray := by simp
  refine ⟨rfl, ?_, ?_⟩
  · refine ⟨by rw [smC_length, hl'], Or.inr ⟨g, c, putCells id 0 (smC d'.toList).toArray cur, rfl, hbase, ?_, h1, h2, ?_, ?_⟩⟩
    · have := heapS (n := n) (os := os) d'.toList hb
      rw [← hda] at this
      exact this
    · simp [putCells, h3]
    · have := takeS cur (smC d'.toList) (by rw [smC_length, hl', h3]; exact Nat.mul_le_mul_right _ h1)
      rw [smC_length, hl'] at this
      exact this
  · exact (Kept.refl _ _).grown (grownS _) (fun j _ hj => by cases hj; rfl)

end Go.Proofs.YtjnjmpfldbkciaaGreat
