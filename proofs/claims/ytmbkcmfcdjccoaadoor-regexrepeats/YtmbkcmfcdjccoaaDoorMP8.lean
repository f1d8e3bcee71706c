/- Texts that belong together. -/
import Derived.Test.YtmbkcmfcdjccoaaDoorMP7
/- Spans, sorted by where they begin. -/
namespace Go.Proofs.YtmbkcmfcdjccoaaDoor
open Go.RowKit Go.Sort Go.Shelf

def encS (x : Sp) : List Value := [.int .i32 x.1, .int .i32 x.2]
def cmpI (a b : Int) : Int := if a < b then -1 else if b < a then 1 else 0
def cf (x y : Sp) : Int := cmpI x.1 y.1
theorem ltOf_cf (x y : Sp) : ltOf cf x y = decide (x.1 < y.1) := by
  unfold ltOf cf cmpI
  by_cases h : x.1 < y.1
  · simp [h]
  · simp [h]
    split <;> omega
theorem swo_cf : SWO (ltOf cf) where
  irrefl x := by rw [ltOf_cf]; simp
  trans x y z h1 h2 := by
    rw [ltOf_cf] at *
    simp only [decide_eq_true_eq] at *
    omega
  ntrans x y z h1 h2 := by
    rw [ltOf_cf] at *
    simp only [decide_eq_false_iff_not] at *
    omega

set_option maxHeartbeats 1000000 in
theorem isNaN_any (x : Int) (w : World) : Calls Tryd.prog 76 #[.int .i32 x] w fun e w' => e = .returned (.bool false) ∧ w' = w := by
  go_enter Tryd.func76, Tryd.ntmps76
  go_wp2
  go_ret
  exact ⟨by simp, rfl⟩

set_option maxHeartbeats 1000000 in
theorem compare_any (x y : Int) (w : World) : Calls Tryd.prog 70 #[.int .i32 x, .int .i32 y] w fun e w' => e = .returned (.int .i64 (cmpI x y)) ∧ w' = w := by
  unfold cmpI
  by_cases h1 : x < y
  · rw [if_pos h1]
    go_enter Tryd.func70, Tryd.ntmps70
    go_wp2_with (go_at_call 76; refine (isNaN_any _ _).mono ?_; rintro e w' ⟨rfl, rfl⟩)
    go_ret
    exact ⟨rfl, rfl⟩
  · rw [if_neg h1]
    by_cases h2 : y < x
    · rw [if_pos h2]
      go_enter Tryd.func70, Tryd.ntmps70
      go_wp2_with (go_at_call 76; refine (isNaN_any _ _).mono ?_; rintro e w' ⟨rfl, rfl⟩)
      go_ret
      exact ⟨rfl, rfl⟩
    · rw [if_neg h2]
      go_enter Tryd.func70, Tryd.ntmps70
      go_wp2_with (go_at_call 76; refine (isNaN_any _ _).mono ?_; rintro e w' ⟨rfl, rfl⟩)
      go_ret
      exact ⟨rfl, rfl⟩

set_option maxHeartbeats 1000000 in
theorem closure_any (x y : Sp) (W : World) : Calls Tryd.prog 69 #[.agg #[.int .i32 x.1, .int .i32 x.2], .agg #[.int .i32 y.1, .int .i32 y.2]] W fun e w' => e = .returned (.int .i64 (cf x y)) ∧ ∃ q os', w' = grow (W.drewN q) os' := by
  have hcon := fun W' => compare_any x.1 y.1 W'
  unfold cf
  generalize cmpI x.1 y.1 = r at hcon ⊢
  go_enter Tryd.func69, Tryd.ntmps69
  go_wp2_with (go_at_call 70; refine (hcon _).mono ?_; rintro e w' ⟨rfl, rfl⟩)
  go_ret
  exact ⟨rfl, 0, _, by rw [alloc_eq_grow, alloc_eq_grow, grow_grow]; rfl⟩

theorem cmpLays (blk off size : Nat) (w : World) : CmpLays Tryd.prog 69 #[] encS 2 cf blk off size w := fun _ _ _ _ x y => closure_any x y _

theorem flatL (ls : List Sp) : flatK encS 2 ls.toArray = (spC ls).toArray := by
  refine ext_get! (by simp [spC_length]) fun t ht => ?_
  have ht' : t < ls.length * 2 := by simpa using ht
  have hk : t / 2 < ls.length := by omega
  rw [get_flatK _ _ _ t (by simpa using ht')]
  have e1 : ls.toArray[t / 2]! = ls[t / 2] := by simp [hk]
  have h3 := spC_get ls (t / 2) hk
  rw [e1]
  have e2 : (spC ls).toArray[t]! = ((spC ls)[t]?).getD default := by simp [getElem!_def]; cases (spC ls)[t]? <;> rfl
  rw [e2]
  rcases Nat.mod_two_eq_zero_or_one t with hm | hm
  · have ej : t = t / 2 * 2 := by omega
    rw [hm]
    conv => rhs; rw [ej]
    rw [h3.1]
    rfl
  · have ej : t = t / 2 * 2 + 1 := by omega
    rw [hm]
    conv => rhs; rw [ej]
    rw [h3.2]
    rfl

theorem holdsL {w : World} {g : Nat} {cur : Array Value} {e : TypeId} {ls : List Sp} (hb : w.heap[g]? = some (.cells cur e (0, 0))) (ht : cur.toList.take (ls.length * 2) = spC ls) : HoldsK encS 2 w g 0 ls.toArray := by
  unfold HoldsK
  rw [flatL]
  intro j hj
  have hj' : j < (spC ls).length := by simpa using hj
  refine ⟨?_, by simp [World.frozen?, hb]⟩
  have h1 : (cur.toList.take (ls.length * 2))[j]? = (spC ls)[j]? := by rw [ht]
  rw [List.getElem?_take_of_lt (by rw [spC_length] at hj'; exact hj')] at h1
  simp only [World.cell?, hb, Nat.zero_add]
  rw [Array.getElem?_toList] at h1
  rw [h1, List.getElem?_eq_getElem hj']
  simp [hj']

theorem heapL {w : World} {g n : Nat} {os : Array Obj} {cur : Array Value} {e : TypeId} {fr : Nat × Nat} (ls : List Sp) (hb : w.heap[g]? = some (.cells cur e fr)) :
    (sortWorldK encS 2 w g 0 n ls.toArray os).heap[g]? = some (.cells (putCells id 0 (spC ls).toArray cur) e fr) := by
  have hg : g < w.heap.size := (Array.getElem?_eq_some_iff.1 hb).1
  unfold sortWorldK putRowK
  rw [flatL, heap_grow_old _ _ (by simpa using hg)]
  simp [putRow, mapBlock, Sort.ahead, Array.getElem?_modify, hb, onCells]
theorem grownL {w : World} {g n : Nat} {os : Array Obj} (d : Array Sp) : w.grownBy (sortWorldK encS 2 w g 0 n d os) (some g) := by
  unfold sortWorldK putRowK
  refine ⟨rfl, rfl, rfl, by simp, fun k hk hne => ?_⟩
  rw [heap_grow_old _ _ (by simpa using hk)]
  have : g ≠ k := fun e => hne (by rw [e])
  simp [putRow, mapBlock, Sort.ahead, Array.getElem?_modify, this]
theorem takeL (cur : Array Value) (ts : List Value) (h : ts.length ≤ cur.size) : (putCells id 0 ts.toArray cur).toList.take ts.length = ts := by
  apply List.ext_getElem?
  intro j
  by_cases hj : j < ts.length
  · rw [List.getElem?_take_of_lt hj, Array.getElem?_toList]
    simp [putCells, hj, show j < cur.size by omega]
  · rw [List.getElem?_take_eq_none (by omega), List.getElem?_eq_none (by omega)]

/-- Sorted by where they begin. -/
def SortedS (ls : List Sp) : Prop := ls.Pairwise fun x y => ¬ y.1 < x.1

set_option maxHeartbeats 1000000 in
/-- slices.SortFunc by tidy's order: the same slice has the same spans, sorted by where they begin. -/
theorem sortSp_any (v : Value) (ls : List Sp) (w : World) (base : Nat) (h : w.ownsRow base 104 2 v ls.length (spC ls)) (hn : v ≠ .slice none 0 0) (hl : ls.length ≤ 1000000) :
    Calls Tryd.prog 68 #[v, .func (.func 69) #[] #[]] w fun e w' => e = .returned (.tuple #[]) ∧ ∃ ls' : List Sp, ls'.Perm ls ∧ SortedS ls' ∧ w'.ownsRow base 104 2 v ls'.length (spC ls') ∧ Below base w w' := by
  rcases h.2 with ⟨hnil, _⟩ | ⟨g, cap, cur, rfl, hbase, hb, h1, h2, h3, h4⟩
  · exact absurd hnil hn
  have eg : ∀ args w, (callFunc 69 args).run Tryd.prog w = .ok (.enter 69 args) w := enters_of Tryd.func69 (by kernel_rfl) rfl
  have hgl : g < w.heap.size := (Array.getElem?_eq_some_iff.1 hb).1
  have hcon := AnyQ.slices_SortFunc Tryd.sortSp 2 Tryd.isAgg104 Tryd.sizeOf104 encS (fun _ => rfl) (fun x v hv => by simp [encS] at hv; rcases hv with rfl | rfl <;> rfl) cf swo_cf 69 #[] g 0 cap ls.toArray w eg (cmpLays g 0 _ w) (holdsL hb h4) hgl (by simp; omega)
  change Calls Tryd.prog 68 _ _ _ at hcon
  have es : ls.toArray.size = ls.length := by simp
  rw [es] at hcon
  refine hcon.mono ?_
  rintro e w' ⟨rfl, d', n, os, hp, hs, rfl⟩
  obtain ⟨hp1, hp2, hp3⟩ := hp
  have hd : d'.size = ls.length := by rw [hp1]; simp
  have ex : d'.extract 0 ls.length = d' := by rw [← hd]; simp
  have ex2 : ls.toArray.extract 0 ls.length = ls.toArray := by rw [← es]; simp
  rw [ex, ex2] at hp3
  have hl' : d'.toList.length = ls.length := by simpa using hd
  have hd' : d' = d'.toList.toArray := by simp
  refine ⟨rfl, d'.toList, by simpa using hp3, ?_, ?_, ?_⟩
  · unfold SortedS
    rw [List.pairwise_iff_getElem]
    intro i j hi hj hij
    have := hs i j (Nat.zero_le _) hij (by omega)
    rw [ltOf_cf, decide_eq_false_iff_not] at this
    have e1 : d'[i]! = d'.toList[i] := by rw [getElem!_pos d' i (by simpa using hi)]; simp
    have e2 : d'[j]! = d'.toList[j] := by rw [getElem!_pos d' j (by simpa using hj)]; simp
    rw [e1, e2] at this
    exact this
  · rw [hl']
    refine ⟨by rw [spC_length, hl'], Or.inr ⟨g, cap, putCells id 0 (spC d'.toList).toArray cur, rfl, hbase, ?_, h1, h2, ?_, ?_⟩⟩
    · have := heapL (n := n) (os := os) d'.toList hb
      rw [← hd'] at this
      exact this
    · simp [putCells, h3]
    · have := takeL cur (spC d'.toList) (by rw [spC_length, hl', h3]; exact Nat.mul_le_mul_right _ h1)
      rw [spC_length, hl'] at this
      exact this
  · exact (Below.refl _ _).grown (grownL _) (by omega) (fun j hj => by cases hj; exact hbase)

end Go.Proofs.YtmbkcmfcdjccoaaDoor

/- A class, tidied. -/
namespace Go.Proofs.YtmbkcmfcdjccoaaDoor
open Go.RowKit Go.Maps

def Ok32 (l : List Sp) : Prop := ∀ s ∈ l, 0 ≤ s.1 ∧ s.1 ≤ s.2 ∧ s.2 ≤ maxR
theorem Ok32.in32 {l : List Sp} (h : Ok32 l) : In32 l := fun s hs => by have := h s hs; omega
theorem Ok32.append {l m : List Sp} (h : Ok32 l) (k : Ok32 m) : Ok32 (l ++ m) := fun s hs => by
  rcases List.mem_append.1 hs with h1 | h1
  · exact h s h1
  · exact k s h1
/-- One span more, laid onto the last one where they meet. -/
def stepT (A : List Sp) (s : Sp) : List Sp := match A.getLast? with
  | some t => if s.1 ≤ t.2 then A.dropLast ++ [(t.1, max t.2 s.2)] else A ++ [s]
  | none => [s]
theorem stepT_nil (s : Sp) : stepT [] s = [s] := rfl
theorem stepT_push (A : List Sp) (t s : Sp) : stepT (A ++ [t]) s = if s.1 ≤ t.2 then A ++ [(t.1, max t.2 s.2)] else A ++ [t] ++ [s] := by
  unfold stepT
  rw [List.getLast?_append]
  simp
def tidT (m : List Sp) : List Sp := m.foldl stepT []
theorem spC_set (A : List Sp) (t1 t2 h : Int) : (spC (A ++ [(t1, t2)])).set (A.length * 2 + 1) (.int .i32 h) = spC (A ++ [(t1, h)]) := by
  rw [spC_append, spC_append, List.set_append_right _ _ (by rw [spC_length]; omega), spC_length]
  rw [show A.length * 2 + 1 - A.length * 2 = 1 by omega]
  rfl
theorem memS_append (l m : List Sp) (c : Int) : memS (l ++ m) c = (memS l c || memS m c) := by simp [memS]
theorem memS_one (s : Sp) (c : Int) : memS [s] c = (decide (s.1 ≤ c) && decide (c ≤ s.2)) := by simp [memS]
theorem RiseS_push : ∀ (A : List Sp) (t : Sp) (f : Int), RiseS (A ++ [t]) f → ∀ h : Int, t.2 ≤ h → RiseS (A ++ [(t.1, h)]) f
  | [], t, f, hr, h, hh => ⟨hr.1, by have := hr.2.1; show t.1 ≤ h; omega, trivial⟩
  | a :: A, t, f, hr, h, hh => ⟨hr.1, hr.2.1, RiseS_push A t _ hr.2.2 h hh⟩
theorem RiseS_more : ∀ (A : List Sp) (t s : Sp) (f : Int), RiseS (A ++ [t]) f → t.2 < s.1 → s.1 ≤ s.2 → RiseS (A ++ [t] ++ [s]) f
  | [], t, s, f, hr, h1, h2 => ⟨hr.1, hr.2.1, by show t.2 + 1 ≤ s.1; omega, h2, trivial⟩
  | a :: A, t, s, f, hr, h1, h2 => ⟨hr.1, hr.2.1, RiseS_more A t s _ hr.2.2 h1 h2⟩
/-- What holds of what has been tidied. -/
structure TidOk (l A : List Sp) : Prop where
  rise : RiseS A 0
  ok : Ok32 A
  low : ∀ a ∈ A, ∃ s ∈ l, a.1 = s.1
  mem : ∀ c, memS A c = memS l c
  len : A.length ≤ l.length
theorem TidOk.step {l A : List Sp} {s : Sp} (h : TidOk l A) (hs : 0 ≤ s.1 ∧ s.1 ≤ s.2 ∧ s.2 ≤ maxR) (hl : ∀ x ∈ l, x.1 ≤ s.1) : TidOk (l ++ [s]) (stepT A s) := by
  rcases List.eq_nil_or_concat A with rfl | ⟨A0, t, rfl⟩
  · rw [stepT_nil]
    refine ⟨⟨hs.1, hs.2.1, trivial⟩, fun x hx => by rw [List.mem_singleton.1 hx]; exact hs, fun a ha => ⟨s, by simp, by rw [List.mem_singleton.1 ha]⟩, fun c => ?_, by simp⟩
    rw [memS_append, ← h.mem c]
    rfl
  · rw [List.concat_eq_append] at *
    have ht := h.ok t (by simp)
    obtain ⟨x, hx, hxe⟩ := h.low t (by simp)
    have htl := hl x hx
    rw [stepT_push]
    split
    · rename_i hle
      refine ⟨RiseS_push A0 t 0 h.rise _ (by omega), fun y hy => ?_, fun a ha => ?_, fun c => ?_, ?_⟩
      · rcases List.mem_append.1 hy with h1 | h1
        · exact h.ok y (List.mem_append.2 (.inl h1))
        · rw [List.mem_singleton.1 h1]; exact ⟨ht.1, by show t.1 ≤ max t.2 s.2; omega, by show max t.2 s.2 ≤ maxR; omega⟩
      · rcases List.mem_append.1 ha with h1 | h1
        · obtain ⟨z, hz, e⟩ := h.low a (List.mem_append.2 (.inl h1)); exact ⟨z, List.mem_append.2 (.inl hz), e⟩
        · rw [List.mem_singleton.1 h1]; exact ⟨x, List.mem_append.2 (.inl hx), hxe⟩
      · rw [memS_append l, ← h.mem c, memS_append, memS_append, memS_one, memS_one, memS_one]
        rw [Bool.eq_iff_iff]
        simp only [Bool.or_eq_true, Bool.and_eq_true, decide_eq_true_eq]
        have hm : max t.2 s.2 = t.2 ∨ max t.2 s.2 = s.2 := by omega
        constructor
        · rintro (h1 | h1)
          · exact .inl (.inl h1)
          · by_cases h2 : c ≤ t.2
            · exact .inl (.inr ⟨h1.1, h2⟩)
            · exact .inr ⟨by omega, by omega⟩
        · rintro ((h1 | h1) | h1)
          · exact .inl h1
          · exact .inr ⟨h1.1, by omega⟩
          · exact .inr ⟨by omega, by omega⟩
      · have := h.len
        rw [List.length_append, List.length_singleton] at *
        rw [List.length_append, List.length_singleton]
        omega
    · rename_i hle
      refine ⟨RiseS_more A0 t s 0 h.rise (by omega) hs.2.1, h.ok.append (fun y hy => by rw [List.mem_singleton.1 hy]; exact hs), fun a ha => ?_, fun c => ?_, ?_⟩
      · rcases List.mem_append.1 ha with h1 | h1
        · obtain ⟨z, hz, e⟩ := h.low a h1; exact ⟨z, List.mem_append.2 (.inl hz), e⟩
        · rw [List.mem_singleton.1 h1]; exact ⟨s, by simp, rfl⟩
      · rw [memS_append l, ← h.mem c, memS_append (A0 ++ [t])]
      · have := h.len
        simp only [List.length_append, List.length_singleton] at this ⊢
        omega
theorem TidOk.take {m : List Sp} (hm : Ok32 m) (hs : SortedS m) : ∀ k, k ≤ m.length → TidOk (m.take k) (tidT (m.take k))
  | 0, _ => ⟨trivial, fun s hs => by simp [tidT] at hs, fun a ha => by simp [tidT] at ha, fun c => rfl, by simp [tidT]⟩
  | k + 1, hk => by
    have ih := TidOk.take hm hs k (by omega)
    have hlt : k < m.length := by omega
    rw [List.take_succ_eq_append_getElem hlt]
    unfold tidT at *
    rw [List.foldl_append]
    refine ih.step (hm _ (List.getElem_mem _)) (fun x hx => ?_)
    obtain ⟨i, hi, rfl⟩ := List.mem_iff_getElem.1 hx
    rw [List.length_take] at hi
    have := List.pairwise_iff_getElem.1 hs i k (by omega) hlt (by omega)
    rw [List.getElem_take]
    omega
theorem memS_perm {l m : List Sp} (h : l.Perm m) (c : Int) : memS l c = memS m c := by
  unfold memS
  rw [Bool.eq_iff_iff, List.any_eq_true, List.any_eq_true]
  exact ⟨fun ⟨x, hx, hp⟩ => ⟨x, h.mem_iff.1 hx, hp⟩, fun ⟨x, hx, hp⟩ => ⟨x, h.mem_iff.2 hx, hp⟩⟩

set_option maxRecDepth 100000 in
set_option maxHeartbeats 4000000 in
theorem tidy_any (v : Value) (l : List Sp) (w : World) (B : Nat) (h : SpR w B v l) (hB : B ≤ w.heap.size) (hne : l ≠ []) (hok : Ok32 l) (hl : l.length ≤ 100000) :
    Calls Tryd.prog 62 #[v] w fun e w' => ∃ v' A, e = .returned v' ∧ SpR w' w.heap.size v' A ∧ Below B w w' ∧ RiseS A 0 ∧ Ok32 A ∧ (∀ c, memS A c = memS l c) ∧ A.length ≤ l.length := by
  obtain ⟨a, c, rfl⟩ := h.slice
  have hsort := sortSp_any _ l w B h (fun e => by injection e with _ e2; exact hne (List.length_eq_zero_iff.1 e2)) (by omega)
  have HSO : Hid (Calls Tryd.prog 68 #[.slice a l.length c, .func (.func 69) #[] #[]] w fun e w' => ∃ m : List Sp, e = .returned (.tuple #[]) ∧ m.length = l.length ∧ RowAt w' (.slice a l.length c) 2 l.length (spC m) ∧ Below B w w' ∧ Ok32 m ∧ (∀ c, memS m c = memS l c) ∧ ∀ k, k ≤ m.length → TidOk (m.take k) (tidT (m.take k))) := hsort.mono (by
    rintro e w' ⟨rfl, m, hp, hs, hr, hb⟩
    have hm : Ok32 m := fun s hs => hok s (hp.mem_iff.1 hs)
    exact ⟨m, rfl, hp.length_eq, (by have h9 := RowAt.of_row hr; rw [hp.length_eq] at h9; exact h9), hb, hm, fun c => memS_perm hp c, TidOk.take hm hs⟩)
  clear hsort h hne hok
  go_enter Tryd.func62, Tryd.ntmps62
  go_wp2_with (go_at_call 68; refine HSO.out.mono ?_; clear HSO; rintro e w1 ⟨m, rfl, hml, hrow, hb, hm, hmem, htid⟩; have HM : Hid (RowAt w1 (.slice a l.length c) 2 l.length (spC m) ∧ Below B w w1 ∧ Ok32 m ∧ (∀ c, memS m c = memS l c) ∧ ∀ k, k ≤ m.length → TidOk (m.take k) (tidT (m.take k))) := ⟨hrow, hb, hm, hmem, htid⟩; have HWW : Hid (w.heap.size ≤ w1.heap.size) := hb.size; clear hrow hb hm hmem htid)
  go_loopw [3, 11] (fun ov iv wr => ∃ (k : Nat) (oa : Option Addr) (n oc : Nat), k ≤ m.length ∧ iv = .int .i64 k ∧ ov = .slice oa n oc ∧ n = (tidT (m.take k)).length ∧ Hid (SpR wr w1.heap.size (.slice oa n oc) (tidT (m.take k))) ∧ Hid (Below w1.heap.size w1 wr)) (fun _ i _ => m.length - (intOf i).toNat)
  case atStart => exact ⟨0, none, 0, 0, Nat.zero_le _, rfl, rfl, rfl, SpR.nil _ _, Below.refl _ _⟩
  case round =>
    obtain ⟨k, oa, n, oc, hk, rfl, rfl, hn, HR, HB⟩ := hrel
    have htk := HM.out.2.2.2.2 k hk
    have hAl := htk.len
    rw [List.length_take] at hAl
    by_cases hlt : k < m.length
    · have hkz : (k : Int) < l.length := by omega
      obtain ⟨b, o, rfl, g0⟩ := HM.out.1.one (spC_get m k hlt).1
      obtain ⟨b', o', e', g1⟩ := HM.out.1.one (spC_get m k hlt).2
      cases e'
      have h0 := g0 wr HB.out
      have h1 := g1 wr HB.out
      rw [← Nat.add_assoc] at h1
      have hs := HM.out.2.2.1 m[k] (List.getElem_mem _)
      have hT : tidT (m.take (k + 1)) = stepT (tidT (m.take k)) m[k] := by
        unfold tidT
        rw [List.take_succ_eq_append_getElem hlt, List.foldl_append]
        rfl
      clear g0 g1 htk
      generalize m[k] = S at *
      obtain ⟨x, y⟩ := S
      dsimp only at hs h0 h1
      obtain ⟨A, hA⟩ : ∃ A, A = tidT (m.take k) := ⟨_, rfl⟩
      rw [← hA] at hT hn HR hAl
      have HT : Hid _ := hT
      clear hT hA
      have HB1 : Hid (Below w1.heap.size w1 (wr.alloc (.cells #[.int .i32 x, .int .i32 y] 104))) := HB.out.alloc HB.out.size _
      have HR1 : Hid (SpR (wr.alloc (.cells #[.int .i32 x, .int .i32 y] 104)) w1.heap.size (.slice oa n oc) A) := HR.out.below ((Below.refl _ _).alloc (Nat.le_refl _) _)
      unfold maxR at hs
      rcases List.eq_nil_or_concat A with rfl | ⟨A0, t, rfl⟩
      · obtain rfl : n = 0 := hn
        clear HB HR
        go_wp2_with fail
        go_quiet (fail)
        have HB2 : Hid (Below w1.heap.size w1 (((wr.alloc (.cells #[.int .i32 x, .int .i32 y] 104)).drewN nq).alloc (.cells #[.int .i32 x, .int .i32 y] 104))) := (below_drewN HB1.out nq).alloc HB1.out.size _
        have HR2 : Hid (SpR (((wr.alloc (.cells #[.int .i32 x, .int .i32 y] 104)).drewN nq).alloc (.cells #[.int .i32 x, .int .i32 y] 104)) w1.heap.size (.slice oa 0 oc) []) := (HR1.out.below (below_drewN (Below.refl _ _) nq)).below ((Below.refl _ _).alloc (Nat.le_refl _) _)
        clear HB1 HR1
        go_wp2_with (at_builtin; refine wpList_append_row appSp _ rfl _ _ rfl w1.heap.size (.slice oa 0 oc) 0 (spC []) rfl HR2.out _ 1 (spC [(x, y)]) rfl (lone _ x y (by simp)) (spC_one _) (by omega) HB2.out.size ?_; intro a5 c5 w5 hr5 hg5 hw5; have HB5 : Hid (Below w1.heap.size w1 w5) := HR2.out.grown HB2.out (Nat.le_refl _) hg5; have HR5 : Hid (SpR w5 w1.heap.size (.slice a5 (0 + 1) c5) ([] ++ [(x, y)])) := (by show World.ownsRow _ _ _ _ _ _ _; rw [List.length_append, spC_append]; exact hr5); clear hr5 hg5 hw5)
        go_roundw
        case rel => exact ⟨k + 1, a5, 0 + 1, c5, by omega, by go_num, rfl, by rw [HT.out]; rfl, by rw [HT.out]; exact HR5.out, HB5⟩
        case measure => simp [intOf]; omega
      · rw [List.concat_eq_append] at *
        have hn2 : n = A0.length + 1 := by rw [hn]; simp
        obtain ⟨N1, hN1⟩ : ∃ N1, N1 = A0.length := ⟨_, rfl⟩
        have hnN : n = N1 + 1 := by omega
        have hq : (n : Int) - 1 = (N1 : Int) := by omega
        obtain ⟨t1, t2⟩ := t
        have hct : (wr.alloc (.cells #[.int .i32 x, .int .i32 y] 104)).ownsRow w1.heap.size 104 2 (.slice oa n oc) n (spC (A0 ++ [(t1, t2)])) := by
          have := HR1.out
          unfold SpR at this
          rw [List.length_append, List.length_singleton, ← hN1, ← hnN] at this
          exact this
        obtain ⟨gb, rfl, hgb⟩ : ∃ gb, oa = some ⟨gb, 0, none⟩ ∧ w1.heap.size ≤ gb := by
          rcases hct.2 with ⟨e, -⟩ | ⟨gb, cap, cur, e, hgb, -⟩
          · cases e
            omega
          · cases e
            exact ⟨gb, rfl, hgb⟩
        have hcell : (wr.alloc (.cells #[.int .i32 x, .int .i32 y] 104)).cell? ⟨gb, N1 * 2 + 1, none⟩ = some (.int .i32 t2) := by
          have h9 := (spC_get (A0 ++ [(t1, t2)]) N1 (by simp; omega)).2
          have h8 := hct.cells (g := gb) rfl _ _ h9
          rw [Addr.add_lit, Nat.zero_add] at h8
          rw [h8]
          simp [hN1]
        have hfr := (row_cell hct (j := N1 * 2 + 1) (by rw [hnN]; omega)).2
        have hnb : (n : Int) ≤ 200000 := by
          rw [List.length_append, List.length_singleton] at hAl
          omega
        have hnz : (0 : Int) < (n : Int) := by omega
        have hnd : decide (0 < n) = true := decide_eq_true (by omega)
        have hN1n : (N1 : Int) < n := by omega
        have HNN : Hid (n = N1 + 1 ∧ N1 = A0.length) := ⟨hnN, hN1⟩
        have HRS : Hid (∀ q, SpR (((wr.alloc (.cells #[.int .i32 x, .int .i32 y] 104)).drewN q).setCell ⟨gb, N1 * 2 + 1, none⟩ (.int .i32 (max t2 y))) w1.heap.size (.slice (some ⟨gb, 0, none⟩) n oc) (A0 ++ [(t1, max t2 y)])) := fun q => by
          have h9 := ownsRow_set (row_below hct (below_drewN (Below.refl _ _) q)) (g := gb) rfl (i := N1 * 2 + 1) (.int .i32 (max t2 y))
          rw [hN1, spC_set] at h9
          unfold SpR
          rw [List.length_append, List.length_singleton, ← hN1, ← hnN]
          rw [hN1]
          exact h9
        have HBS : Hid (∀ q, Below w1.heap.size w1 (((wr.alloc (.cells #[.int .i32 x, .int .i32 y] 104)).drewN q).setCell ⟨gb, N1 * 2 + 1, none⟩ (.int .i32 (max t2 y)))) := fun q => (below_drewN HB1.out q).setCell (p := ⟨gb, N1 * 2 + 1, none⟩) hgb _
        clear HB HR hn hn2 hnN hN1
        by_cases hle : x ≤ t2
        · have hld : decide (x ≤ t2) = true := decide_eq_true hle
          go_wp2_with fail
          go_quiet (fail)
          go_wp2
          go_region
          all_goals
            go_wp2
            go_roundw
            case rel => exact ⟨k + 1, some ⟨gb, 0, none⟩, n, oc, by omega, by go_num, rfl, by rw [HT.out, stepT_push, if_pos hle, List.length_append, List.length_singleton, ← HNN.out.2]; exact HNN.out.1, by rw [HT.out, stepT_push, if_pos hle]; exact HRS.out _, HBS.out _⟩
            case measure => simp [intOf]; omega
        · have hld : decide (x ≤ t2) = false := decide_eq_false hle
          go_wp2_with fail
          go_quiet (fail)
          have HB2 : Hid (Below w1.heap.size w1 (((wr.alloc (.cells #[.int .i32 x, .int .i32 y] 104)).drewN nq).alloc (.cells #[.int .i32 x, .int .i32 y] 104))) := (below_drewN HB1.out nq).alloc HB1.out.size _
          have HR2 : Hid (SpR (((wr.alloc (.cells #[.int .i32 x, .int .i32 y] 104)).drewN nq).alloc (.cells #[.int .i32 x, .int .i32 y] 104)) w1.heap.size (.slice (some ⟨gb, 0, none⟩) n oc) (A0 ++ [(t1, t2)])) := (HR1.out.below (below_drewN (Below.refl _ _) nq)).below ((Below.refl _ _).alloc (Nat.le_refl _) _)
          have HLA : Hid ((A0 ++ [(t1, t2)]).length = n) := by show _ = _; rw [List.length_append, List.length_singleton, ← HNN.out.2]; exact HNN.out.1.symm
          have HR2n : Hid ((((wr.alloc (.cells #[.int .i32 x, .int .i32 y] 104)).drewN nq).alloc (.cells #[.int .i32 x, .int .i32 y] 104)).ownsRow w1.heap.size 104 2 (.slice (some ⟨gb, 0, none⟩) n oc) n (spC (A0 ++ [(t1, t2)]))) := by
            have := HR2.out
            unfold SpR at this
            rw [HLA.out] at this
            exact this
          clear HB1 HR1
          go_wp2_with (at_builtin; refine wpList_append_row appSp _ rfl _ _ rfl w1.heap.size (.slice (some ⟨gb, 0, none⟩) n oc) n (spC (A0 ++ [(t1, t2)])) rfl HR2n.out _ 1 (spC [(x, y)]) rfl (lone _ x y (by simp)) (spC_one _) (by omega) HB2.out.size ?_; intro a5 c5 w5 hr5 hg5 hw5; have HB5 : Hid (Below w1.heap.size w1 w5) := HR2.out.grown HB2.out (Nat.le_refl _) hg5; have HR5 : Hid (SpR w5 w1.heap.size (.slice a5 (n + 1) c5) ((A0 ++ [(t1, t2)]) ++ [(x, y)])) := (by show World.ownsRow _ _ _ _ _ _ _; rw [List.length_append, HLA.out, spC_append]; exact hr5); clear hr5 hg5 hw5)
          go_roundw
          case rel => exact ⟨k + 1, a5, n + 1, c5, by omega, by go_num, rfl, by rw [HT.out, stepT_push, if_neg (Int.not_le.2 hle), List.length_append, HLA.out]; rfl, by rw [HT.out, stepT_push, if_neg (Int.not_le.2 hle)]; exact HR5.out, HB5⟩
          case measure => simp [intOf]; omega
    · obtain rfl : k = m.length := by omega
      rw [List.take_length] at htk HR hn
      subst hn
      have HTK : Hid _ := htk
      clear htk
      go_wp2
      go_ret
      exact ⟨_, tidT m, rfl, HR.out.mono HWW.out, HM.out.2.1.trans (HB.out.mono (Nat.le_trans hB HWW.out)), HTK.out.rise, HTK.out.ok, fun c => (HTK.out.mem c).trans (HM.out.2.2.2.1 c), by have := HTK.out.len; omega⟩
end Go.Proofs.YtmbkcmfcdjccoaaDoor
