/- Members, sorted. -/
import Derived.Test.YtfkahbgphoonaaaXd
import Derived.Test.YtfkahbgphoonaaaYz
namespace Go.Proofs.Ytfkahbgphoonaaa
open Go.RowKit Go.Shelf Go.Maps Go.Sort

/-- A member stands ahead of another. -/
def LtM (x y : Mb) : Prop := x.1 < y.1 ∨ (x.1 = y.1 ∧ (x.2.lo < y.2.lo ∨ (x.2.lo = y.2.lo ∧ x.2.nm.toList < y.2.nm.toList)))
theorem ltOf_cfM (x y : Mb) : ltOf cfM x y = true ↔ LtM x y := by
  unfold ltOf cfM LtM cmpS
  rw [bytesLess_eq]
  simp only [orL, cmM, decide_eq_true_eq]
  by_cases h1 : x.1 < y.1
  · simp [h1]
  · by_cases h2 : x.1 ≤ y.1
    · have h3 : x.1 = y.1 := by omega
      by_cases h4 : x.2.lo < y.2.lo
      · simp [h3, h4]
      · by_cases h5 : x.2.lo ≤ y.2.lo
        · have h6 : x.2.lo = y.2.lo := by omega
          by_cases h7 : x.2.nm.toList < y.2.nm.toList
          · simp [h3, h6, h7]
          · simp [h3, h6, h7]
            split <;> simp
        · have h6 : ¬ x.2.lo = y.2.lo := by omega
          simp [h3, h4, h5, h6]
    · have h3 : ¬ x.1 = y.1 := by omega
      simp [h1, h2, h3]
theorem ltOf_cfM' (x y : Mb) : ltOf cfM x y = false ↔ ¬ LtM x y := by
  rw [← ltOf_cfM]
  simp
theorem swo_cfM : SWO (ltOf cfM) where
  irrefl x := by
    rw [ltOf_cfM']
    unfold LtM
    have := List.lt_irrefl x.2.nm.toList
    intro h
    rcases h with h | ⟨-, h | ⟨-, h⟩⟩
    · omega
    · omega
    · exact this h
  trans x y z h1 h2 := by
    rw [ltOf_cfM] at *
    unfold LtM at *
    rcases h1 with h1 | ⟨h1, h3 | ⟨h3, h5⟩⟩ <;> rcases h2 with h2 | ⟨h2, h4 | ⟨h4, h6⟩⟩ <;> first | (left; omega) | (right; refine ⟨by omega, Or.inl (by omega)⟩) | (right; exact ⟨by omega, Or.inr ⟨by omega, List.lt_trans h5 h6⟩⟩)
  ntrans x y z h1 h2 := by
    rw [ltOf_cfM'] at *
    unfold LtM at *
    intro h
    rcases h with h | ⟨h, h3 | ⟨h3, h5⟩⟩
    · by_cases a : x.1 < y.1
      · exact h1 (Or.inl a)
      · exact h2 (Or.inl (by omega))
    · by_cases a : x.1 = y.1
      · by_cases b : x.2.lo < y.2.lo
        · exact h1 (Or.inr ⟨a, Or.inl b⟩)
        · exact h2 (Or.inr ⟨by omega, Or.inl (by omega)⟩)
      · by_cases b : x.1 < y.1
        · exact h1 (Or.inl b)
        · exact h2 (Or.inl (by omega))
    · by_cases a : x.1 = y.1
      · by_cases b : x.2.lo = y.2.lo
        · by_cases c : x.2.nm.toList < y.2.nm.toList
          · exact h1 (Or.inr ⟨a, Or.inr ⟨b, c⟩⟩)
          · refine h2 (Or.inr ⟨by omega, Or.inr ⟨by omega, ?_⟩⟩)
            rw [List.not_lt] at c
            exact List.lt_of_le_of_lt c h5
        · by_cases c : x.2.lo < y.2.lo
          · exact h1 (Or.inr ⟨a, Or.inl c⟩)
          · exact h2 (Or.inr ⟨by omega, Or.inl (by omega)⟩)
      · by_cases b : x.1 < y.1
        · exact h1 (Or.inl b)
        · exact h2 (Or.inl (by omega))

instance : Inhabited Mt := ⟨⟨ByteArray.empty, 0, 0, 0⟩⟩
theorem cmpLaysM (blk off size : Nat) (w : World) : CmpLays Try.prog 28 #[] mbV 5 cfM blk off size w := fun _ _ _ _ x y => order_any x y _

theorem flatM (ls : List Mb) : flatK mbV 5 ls.toArray = (mbC ls).toArray := by
  refine ext_get! (by simp [mbC_length]) fun t ht => ?_
  have ht' : t < ls.length * 5 := by simpa using ht
  have hk : t / 5 < ls.length := by omega
  rw [get_flatK _ _ _ t (by simpa using ht')]
  have e1 : ls.toArray[t / 5]! = ls[t / 5] := by simp [hk]
  have h3 := flat_at mbV 5 (fun _ => rfl) ls (t / 5) hk (t % 5) (Nat.mod_lt _ (by decide))
  rw [show t / 5 * 5 + t % 5 = t by omega] at h3
  rw [e1]
  have e2 : (mbC ls).toArray[t]! = ((mbC ls)[t]?).getD default := by simp [getElem!_def]; cases (mbC ls)[t]? <;> rfl
  rw [e2]
  unfold mbC
  rw [h3]
  have h5 : t % 5 < (mbV ls[t / 5]).length := Nat.mod_lt _ (by decide)
  rw [List.getElem?_eq_getElem h5]
  simp [getElem!_pos, h5]

theorem holdsM {w : World} {g : Nat} {cur : Array Value} {e : TypeId} {ls : List Mb} (hb : w.heap[g]? = some (.cells cur e (0, 0))) (ht : cur.toList.take (ls.length * 5) = mbC ls) : HoldsK mbV 5 w g 0 ls.toArray := by
  unfold HoldsK
  rw [flatM]
  intro j hj
  have hj' : j < (mbC ls).length := by simpa using hj
  refine ⟨?_, by simp [World.frozen?, hb]⟩
  have h1 : (cur.toList.take (ls.length * 5))[j]? = (mbC ls)[j]? := by rw [ht]
  rw [List.getElem?_take_of_lt (by rw [mbC_length] at hj'; exact hj')] at h1
  simp only [World.cell?, hb, Nat.zero_add]
  rw [Array.getElem?_toList] at h1
  rw [h1, List.getElem?_eq_getElem hj']
  simp [hj']
theorem heapM {w : World} {g n : Nat} {os : Array Obj} {cur : Array Value} {e : TypeId} {fr : Nat × Nat} (ls : List Mb) (hb : w.heap[g]? = some (.cells cur e fr)) :
    (sortWorldK mbV 5 w g 0 n ls.toArray os).heap[g]? = some (.cells (putCells id 0 (mbC ls).toArray cur) e fr) := by
  have hg : g < w.heap.size := (Array.getElem?_eq_some_iff.1 hb).1
  unfold sortWorldK putRowK
  rw [flatM, heap_grow_old _ _ (by simpa using hg)]
  simp [putRow, mapBlock, Sort.ahead, Array.getElem?_modify, hb, onCells]
theorem grownM {w : World} {g n : Nat} {os : Array Obj} (d : Array Mb) : w.grownBy (sortWorldK mbV 5 w g 0 n d os) (some g) := by
  unfold sortWorldK putRowK
  refine ⟨rfl, rfl, rfl, by simp, fun k hk hne => ?_⟩
  rw [heap_grow_old _ _ (by simpa using hk)]
  have : g ≠ k := fun e => hne (by rw [e])
  simp [putRow, mapBlock, Sort.ahead, Array.getElem?_modify, this]
theorem takeM (cur : Array Value) (ts : List Value) (h : ts.length ≤ cur.size) : (putCells id 0 ts.toArray cur).toList.take ts.length = ts := by
  apply List.ext_getElem?
  intro j
  by_cases hj : j < ts.length
  · rw [List.getElem?_take_of_lt hj, Array.getElem?_toList]
    simp [putCells, hj, show j < cur.size by omega]
  · rw [List.getElem?_take_eq_none (by omega), List.getElem?_eq_none (by omega)]

/-- Sorted: no later one stands ahead. -/
def SortedM (ls : List Mb) : Prop := ls.Pairwise fun x y => ¬ LtM y x

set_option maxHeartbeats 1000000 in
/-- slices.SortFunc of members: the same slice has the same members, sorted. -/
theorem sortM_any (v : Value) (ls : List Mb) (w : World) (base : Nat) (h : w.ownsRow base 63 5 v ls.length (mbC ls)) (hn : v ≠ .slice none 0 0) (hl : ls.length ≤ 1000000) :
    Calls Try.prog 27 #[v, .func (.func 28) #[] #[]] w fun e w' => e = .returned (.tuple #[]) ∧ ∃ ls' : List Mb, ls'.Perm ls ∧ SortedM ls' ∧ w'.ownsRow base 63 5 v ls'.length (mbC ls') ∧ Below base w w' := by
  rcases h.2 with ⟨hnil, _⟩ | ⟨g, cap, cur, rfl, hbase, hb, h1, h2, h3, h4⟩
  · exact absurd hnil hn
  have eg : ∀ args w, (callFunc 28 args).run Try.prog w = .ok (.enter 28 args) w := enters_of Try.func28 (by kernel_rfl) rfl
  have hgl : g < w.heap.size := (Array.getElem?_eq_some_iff.1 hb).1
  have hcon := AnyQ.slices_SortFunc Try.sortMb 5 Try.isAgg63 Try.sizeOf63 mbV (fun _ => rfl) (fun x v hv => by simp [mbV] at hv; rcases hv with rfl | rfl | rfl | rfl | rfl <;> rfl) cfM swo_cfM 28 #[] g 0 cap ls.toArray w eg (cmpLaysM g 0 _ w) (holdsM hb h4) hgl (by simp; omega)
  change Calls Try.prog 27 _ _ _ at hcon
  have es : ls.toArray.size = ls.length := by simp
  rw [es] at hcon
  refine hcon.mono ?_
  rintro e w' ⟨rfl, d', n, os, hp, hs, rfl⟩
  obtain ⟨hp1, hp2, hp3⟩ := hp
  have hd : d'.size = ls.length := by rw [hp1]; simp
  have ex : d'.extract 0 ls.length = d' := by rw [← hd]; simp
  have ex2 : ls.toArray.extract 0 ls.length = ls.toArray := by rw [← es]; simp
  rw [ex, ex2] at hp3
  have hl' : d'.toList.length = ls.length := by simpa using hd
  have hd' : d' = d'.toList.toArray := by simp
  refine ⟨rfl, d'.toList, by simpa using hp3, ?_, ?_, ?_⟩
  · unfold SortedM
    rw [List.pairwise_iff_getElem]
    intro i j hi hj hij
    have := hs i j (Nat.zero_le _) hij (by omega)
    rw [ltOf_cfM'] at this
    have e1 : d'[i]! = d'.toList[i] := by rw [getElem!_pos d' i (by simpa using hi)]; simp
    have e2 : d'[j]! = d'.toList[j] := by rw [getElem!_pos d' j (by simpa using hj)]; simp
    rw [e1, e2] at this
    exact this
  · rw [hl']
    refine ⟨by rw [mbC_length, hl'], Or.inr ⟨g, cap, putCells id 0 (mbC d'.toList).toArray cur, rfl, hbase, ?_, h1, h2, ?_, ?_⟩⟩
    · have := heapM (n := n) (os := os) d'.toList hb
      rw [← hd'] at this
      exact this
    · simp [putCells, h3]
    · have := takeM cur (mbC d'.toList) (by rw [mbC_length, hl', h3]; exact Nat.mul_le_mul_right _ h1)
      rw [mbC_length, hl'] at this
      exact this
  · exact (Below.refl _ _).grown (grownM _) (by omega) (fun j hj => by cases hj; exact hbase)

/-- The same of every slice, a nil one too. -/
theorem sortM_every (v : Value) (ls : List Mb) (w : World) (base : Nat) (h : w.ownsRow base 63 5 v ls.length (mbC ls)) (hl : ls.length ≤ 1000000) :
    Calls Try.prog 27 #[v, .func (.func 28) #[] #[]] w fun e w' => e = .returned (.tuple #[]) ∧ ∃ ls' : List Mb, ls'.Perm ls ∧ SortedM ls' ∧ w'.ownsRow base 63 5 v ls'.length (mbC ls') ∧ Below base w w' := by
  by_cases hn : v = .slice none 0 0
  · subst hn
    have h0 : ls = [] := by
      rcases h.2 with ⟨-, h0⟩ | ⟨g, cap, cur, e, _⟩
      · exact List.eq_nil_of_length_eq_zero h0
      · cases e
    subst h0
    have hc := AnyF.slices_SortFunc_none Try.sortMb none 0 (.func (.func 28) #[] #[]) w
    change Calls Try.prog 27 _ _ _ at hc
    refine hc.mono ?_
    rintro e w' ⟨rfl, rfl⟩
    exact ⟨rfl, [], .refl _, List.Pairwise.nil, h, Below.refl _ _⟩
  · exact sortM_any v ls w base h hn hl

end Go.Proofs.Ytfkahbgphoonaaa
