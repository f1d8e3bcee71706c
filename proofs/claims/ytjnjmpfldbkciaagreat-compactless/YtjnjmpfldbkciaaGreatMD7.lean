/- slices.SortFunc of pieces. -/
import Derived.Test.YtjnjmpfldbkciaaGreatMD6
import Derived.Test.YtjnjmpfldbkciaaGreatYe1
namespace Go.Proofs.YtjnjmpfldbkciaaGreat
open Go.RowKit Go.Shelf Go.Maps Go.Sort

theorem LbAt.kept {O : Nat → Prop} {w w' : World} {v : Value} {l : List Lb} (h : LbAt w v l) (hk : Kept O w w') (ho : ∀ b, blkOf v = some b → l ≠ [] → ¬ O b) : LbAt w' v l := by
  by_cases e : l = []
  · subst e
    obtain ⟨a, c, h1, h2, h3, -⟩ := h
    exact ⟨a, c, h1, h2, h3, fun j u hu => by simp [lbC] at hu⟩
  · exact RowAt.kept h hk (fun b hb => ho b hb e)
/-- A piece whose labels lie elsewhere than in the block that is sorted. -/
def GSp (w : World) (g : Nat) (x : Gn) : Prop := LbAt w x.v x.ls ∧ x.ls.length ≤ 64 ∧ ∀ b, blkOf x.v = some b → x.ls ≠ [] → b ≠ g
abbrev GS (w : World) (g : Nat) := { x : Gn // GSp w g x }
instance (w : World) (g : Nat) : Inhabited (GS w g) := ⟨⟨⟨.slice none 0 0, [], 0, 0⟩, ⟨none, 0, rfl, ⟨Nat.le_refl _, Nat.zero_le _⟩, rfl, fun j u hu => by simp [lbC] at hu⟩, Nat.zero_le _, fun b hb => by cases hb⟩⟩
section
variable {w0 : World} {g0 : Nat}
def gsV (x : GS w0 g0) : List Value := gnV x.1
def gsC (l : List (GS w0 g0)) : List Value := l.flatMap gsV
theorem gsC_eq (l : List (GS w0 g0)) : gsC l = gnC (l.map Subtype.val) := by
  unfold gsC gnC
  rw [List.flatMap_map]
  rfl
theorem gsC_length (l : List (GS w0 g0)) : (gsC l).length = l.length * 3 := flat_len gsV 3 (fun _ => rfl) l
def cfGS (x y : GS w0 g0) : Int := cfG x.1.p y.1.p
def cpG (x y : List Lb × Int) : Int := if cmpL x.1 y.1 = 0 then cmpI x.2 y.2 else cmpL x.1 y.1
theorem tcP : TC cpG := tcG
theorem cfG_key (x y : PG) : cfG x y = cpG (x.1, x.2.1) (y.1, y.2.1) := cfG_eq x y
theorem swo_cfGS : SWO (ltOf (cfGS (w0 := w0) (g0 := g0))) where
  irrefl x := by
    unfold ltOf cfGS
    rw [decide_eq_false_iff_not, cfG_key, tcP.self]
    omega
  trans x y z h1 h2 := by
    unfold ltOf cfGS at *
    rw [decide_eq_true_eq, cfG_key] at *
    exact tcP.lt1 h1 (by omega)
  ntrans x y z h1 h2 := by
    unfold ltOf cfGS at *
    rw [decide_eq_false_iff_not, cfG_key] at *
    have a1 := tcP.anti (x.1.p.1, x.1.p.2.1) (y.1.p.1, y.1.p.2.1)
    have a2 := tcP.anti (y.1.p.1, y.1.p.2.1) (z.1.p.1, z.1.p.2.1)
    have a3 := tcP.anti (x.1.p.1, x.1.p.2.1) (z.1.p.1, z.1.p.2.1)
    have := tcP.tr (z.1.p.1, z.1.p.2.1) (y.1.p.1, y.1.p.2.1) (x.1.p.1, x.1.p.2.1) (by omega) (by omega)
    omega

theorem flatGS (ls : List (GS w0 g0)) : flatK gsV 3 ls.toArray = (gsC ls).toArray := by
  refine ext_get! (by simp [gsC_length]) fun t ht => ?_
  have ht' : t < ls.length * 3 := by simpa using ht
  have hk : t / 3 < ls.length := by omega
  rw [get_flatK _ _ _ t (by simpa using ht')]
  have e1 : ls.toArray[t / 3]! = ls[t / 3] := by simp [hk]
  have h3 := flat_at gsV 3 (fun _ => rfl) ls (t / 3) hk (t % 3) (Nat.mod_lt _ (by decide))
  rw [show t / 3 * 3 + t % 3 = t by omega] at h3
  rw [e1]
  have e2 : (gsC ls).toArray[t]! = ((gsC ls)[t]?).getD default := by simp [getElem!_def]; cases (gsC ls)[t]? <;> rfl
  rw [e2]
  unfold gsC
  rw [h3]
  have h5 : t % 3 < (gsV ls[t / 3]).length := Nat.mod_lt _ (by decide)
  rw [List.getElem?_eq_getElem h5]
  simp [getElem!_pos, h5]

theorem holdsGS {w : World} {g : Nat} {cur : Array Value} {e : TypeId} {ls : List (GS w0 g0)} (hb : w.heap[g]? = some (.cells cur e (0, 0))) (ht : cur.toList.take (ls.length * 3) = gsC ls) : HoldsK gsV 3 w g 0 ls.toArray := by
  unfold HoldsK
  rw [flatGS]
  intro j hj
  have hj' : j < (gsC ls).length := by simpa using hj
  refine ⟨?_, by simp [World.frozen?, hb]⟩
  have h1 : (cur.toList.take (ls.length * 3))[j]? = (gsC ls)[j]? := by rw [ht]
  rw [List.getElem?_take_of_lt (by rw [gsC_length] at hj'; exact hj')] at h1
  simp only [World.cell?, hb, Nat.zero_add]
  rw [Array.getElem?_toList] at h1
  rw [h1, List.getElem?_eq_getElem hj']
  simp [hj']
theorem heapGS {w : World} {g n : Nat} {os : Array Obj} {cur : Array Value} {e : TypeId} {fr : Nat × Nat} (ls : List (GS w0 g0)) (hb : w.heap[g]? = some (.cells cur e fr)) :
    (sortWorldK gsV 3 w g 0 n ls.toArray os).heap[g]? = some (.cells (putCells id 0 (gsC ls).toArray cur) e fr) := by
  have hg : g < w.heap.size := (Array.getElem?_eq_some_iff.1 hb).1
  unfold sortWorldK putRowK
  rw [flatGS, heap_grow_old _ _ (by simpa using hg)]
  simp [putRow, mapBlock, Sort.ahead, Array.getElem?_modify, hb, onCells]
theorem grownGS {w : World} {g n : Nat} {os : Array Obj} (d : Array (GS w0 g0)) : w.grownBy (sortWorldK gsV 3 w g 0 n d os) (some g) := by
  unfold sortWorldK putRowK
  refine ⟨rfl, rfl, rfl, by simp, fun k hk hne => ?_⟩
  rw [heap_grow_old _ _ (by simpa using hk)]
  have : g ≠ k := fun e => hne (by rw [e])
  simp [putRow, mapBlock, Sort.ahead, Array.getElem?_modify, this]
theorem takeGS (cur : Array Value) (ts : List Value) (h : ts.length ≤ cur.size) : (putCells id 0 ts.toArray cur).toList.take ts.length = ts := by
  apply List.ext_getElem?
  intro j
  by_cases hj : j < ts.length
  · rw [List.getElem?_take_of_lt hj, Array.getElem?_toList]
    simp [putCells, hj, show j < cur.size by omega]
  · rw [List.getElem?_take_eq_none (by omega), List.getElem?_eq_none (by omega)]


theorem cmpLaysGS (size : Nat) : CmpLays Tryz.prog 21 #[] (gsV (w0 := w0) (g0 := g0)) 3 cfGS g0 0 size w0 := fun m os dk _ x y => by
  have hk : Kept (fun k => k = g0) w0 (sortWorldK gsV 3 w0 g0 0 m dk os) := (Kept.refl _ w0).grown (grownGS dk) (fun k _ e => by simpa using e.symm)
  exact order_any x.1 y.1 _ (x.2.1.kept hk (fun b hb hne => x.2.2.2 b hb hne)) (y.2.1.kept hk (fun b hb hne => y.2.2.2 b hb hne)) x.2.2.1 y.2.2.1
end

set_option maxHeartbeats 1000000 in
/-- slices.SortFunc of pieces: the same slice has the same pieces, sorted. -/
theorem sortG_any (g cap n : Nat) (l : List Gn) (w : World) (base : Nat) (h : w.ownsRow base 39 3 (.slice (some ⟨g, 0, none⟩) n cap) n (gnC l)) (hn : l.length = n) (hx : ∀ x ∈ l, GSp w g x) (hl : n ≤ 1000000) :
    Calls Tryz.prog 20 #[.slice (some ⟨g, 0, none⟩) n cap, .func (.func 21) #[] #[]] w fun e w' => e = .returned (.tuple #[]) ∧ ∃ l' : List Gn, l'.Perm l ∧ (l'.map Gn.p).Pairwise LeG ∧ w'.ownsRow base 39 3 (.slice (some ⟨g, 0, none⟩) n cap) n (gnC l') ∧ Kept (fun k => k = g) w w' := by
  obtain ⟨ls, hls⟩ : ∃ ls : List (GS w g), ls.map Subtype.val = l := ⟨l.attachWith _ hx, by simp⟩
  have hll : ls.length = n := by rw [← hn, ← hls]; simp
  rw [← hls, ← gsC_eq] at h
  rcases h.2 with ⟨hnil, _⟩ | ⟨g', cap', cur, e0, hbase, hb, h1, h2, h3, h4⟩
  · cases hnil
  cases e0
  have eg : ∀ args w, (callFunc 21 args).run Tryz.prog w = .ok (.enter 21 args) w := enters_of Tryz.func21 (by kernel_rfl) rfl
  have hgl : g < w.heap.size := (Array.getElem?_eq_some_iff.1 hb).1
  have es : ls.toArray.size = ls.length := by simp
  have hone : ∀ (x : GS w g), ∀ v ∈ gsV x, v.oneCell' = true := fun x v hv => by
    obtain ⟨a, c, e, -⟩ := x.2.1
    simp [gsV, gnV, e] at hv
    rcases hv with rfl | rfl | rfl <;> rfl
  have hcon := AnyQ.slices_SortFunc Tryz.sortGn 3 Tryz.isAgg39 Tryz.sizeOf39 gsV (fun _ => rfl) hone cfGS swo_cfGS 21 #[] g 0 cap ls.toArray w eg (cmpLaysGS _) (holdsGS hb (by rw [hll]; exact h4)) hgl (by simp; omega)
  change Calls Tryz.prog 20 _ _ _ at hcon
  rw [es, hll] at hcon
  refine hcon.mono ?_
  rintro e w' ⟨rfl, d', nn, os, hp, hs, rfl⟩
  obtain ⟨hp1, hp2, hp3⟩ := hp
  have hd : d'.size = n := by rw [hp1, ← hll]; simp
  have ex : d'.extract 0 n = d' := by rw [← hd]; simp
  have ex2 : ls.toArray.extract 0 n = ls.toArray := by rw [← hll, ← es]; simp
  rw [ex, ex2] at hp3
  have hl' : d'.toList.length = n := by simpa using hd
  have hd' : d' = d'.toList.toArray := by simp
  refine ⟨rfl, d'.toList.map Subtype.val, ?_, ?_, ?_, ?_⟩
  · rw [← hls]
    exact (show d'.toList.Perm ls by simpa using hp3).map _
  · rw [List.map_map, List.pairwise_map, List.pairwise_iff_getElem]
    intro i j hi hj hij
    have := hs i j (Nat.zero_le _) hij (by omega)
    have e1 : d'[i]! = d'.toList[i] := by rw [getElem!_pos d' i (by simpa using hi)]; simp
    have e2 : d'[j]! = d'.toList[j] := by rw [getElem!_pos d' j (by simpa using hj)]; simp
    rw [e1, e2] at this
    unfold ltOf cfGS at this
    exact cfG_le (of_decide_eq_false this)
  · rw [← gsC_eq]
    refine ⟨by rw [gsC_length, hl'], Or.inr ⟨g, cap, putCells id 0 (gsC d'.toList).toArray cur, rfl, hbase, ?_, h1, h2, ?_, ?_⟩⟩
    · have := heapGS (n := nn) (os := os) d'.toList hb
      rw [← hd'] at this
      exact this
    · simp [putCells, h3]
    · have := takeGS cur (gsC d'.toList) (by rw [gsC_length, hl', h3]; exact Nat.mul_le_mul_right _ h1)
      rw [gsC_length, hl'] at this
      exact this
  · exact (Kept.refl _ w).grown (grownGS d') (fun k _ e => by simpa using e.symm)
theorem sortG_none (c : Nat) (w : World) :
    Calls Tryz.prog 20 #[.slice none 0 c, .func (.func 21) #[] #[]] w fun e w' => e = .returned (.tuple #[]) ∧ w' = w := by
  have hc := AnyF.slices_SortFunc_none Tryz.sortGn none c (.func (.func 21) #[] #[]) w
  change Calls Tryz.prog 20 _ _ _ at hc
  exact hc

end Go.Proofs.YtjnjmpfldbkciaaGreat
