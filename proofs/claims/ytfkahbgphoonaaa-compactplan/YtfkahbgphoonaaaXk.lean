/- Joined: the set of names; the walk. -/
import Derived.Test.YtfkahbgphoonaaaXh
import Derived.Maps.OwnSet
import Derived.StringKeys
import Derived.Deep.RegionHeld3
import Derived.Deep.CutRange
import Derived.Deep.LoopGhost
import Derived.Test.YtfkahbgphoonaaaRk
namespace Go.Proofs.Ytfkahbgphoonaaa
open Go.RowKit Go.Shelf Go.Maps Go.Sort

/-- A slice that reads as texts. -/
def StAt (w : World) (v : Value) (ns : List ByteArray) : Prop := RowAt w v 1 ns.length (stC ns)
theorem stC_at (l : List ByteArray) (k : Nat) (hk : k < l.length) : (stC l)[k]? = some (.string l[k]) := by simp [stC, hk]
theorem StAt.one {w : World} {a : Option Addr} {c : Nat} {l : List ByteArray} (h : StAt w (.slice a l.length c) l) (k : Nat) (hk : k < l.length) : ∃ b o, a = some ⟨b, o, none⟩ ∧ ∀ w', Below w.heap.size w w' → w'.cell? ⟨b, o + k, none⟩ = some (.string l[k]) :=
  RowAt.one h (stC_at l k hk)

/-- The set of these names. -/
def Nd (ns : List ByteArray) : DataW Unit := ns.foldl (fun D n => D.put (.string n.data.toList) (.agg [])) (.map [])
theorem Nd_snoc (ns : List ByteArray) (n : ByteArray) : Nd (ns ++ [n]) = (Nd ns).put (.string n.data.toList) (.agg []) := by simp [Nd]
theorem Nd_isMap (ns : List ByteArray) : IsMap (Nd ns) := by
  unfold Nd
  suffices h : ∀ D : DataW Unit, IsMap D → IsMap (ns.foldl (fun D n => D.put (.string n.data.toList) (.agg [])) D) from h _ isMap_empty
  induction ns with
  | nil => exact fun D h => h
  | cons n r ih => exact fun D h => ih _ (h.put _ _)
theorem nmq_data (a b : ByteArray) : nmq a b = (a.data.toList == b.data.toList) := by unfold nmq; rw [ByteArray.toList_eq, ByteArray.toList_eq]
theorem has_put (D : DataW Unit) (hD : IsMap D) (n s : ByteArray) : Maps.has (D.put (.string n.data.toList) (.agg [])) (.string s.data.toList) = (nmq n s || Maps.has D (.string s.data.toList)) := by
  rw [nmq_data]
  by_cases h : n.data.toList = s.data.toList
  · rw [h, has_put_same hD (by simp [WideAt.IsKeyLit])]
    simp
  · rw [has_put_other (fun e => h (by simpa using (Lit.string.inj e).symm))]
    have : (n.data.toList == s.data.toList) = false := by simpa using h
    rw [this, Bool.false_or]
theorem has_fold (ns : List ByteArray) (s : ByteArray) (D : DataW Unit) (hD : IsMap D) : Maps.has (ns.foldl (fun D n => D.put (.string n.data.toList) (.agg [])) D) (.string s.data.toList) = (Maps.has D (.string s.data.toList) || ns.any fun n => nmq n s) := by
  induction ns generalizing D with
  | nil => simp
  | cons n r ih =>
    rw [List.foldl_cons, ih _ (hD.put _ _), has_put D hD, List.any_cons]
    cases nmq n s <;> cases Maps.has D (.string s.data.toList) <;> simp
theorem has_Nd (ns : List ByteArray) (s : ByteArray) : Maps.has (Nd ns) (.string s.data.toList) = ns.any fun n => nmq n s := by
  unfold Nd
  rw [has_fold ns s _ isMap_empty]
  rfl

theorem keyedS : Keyed Try.prog 9 := string_keyed Try.underlying9
theorem zeroU (w : World) : (zeroValue 46).run Try.prog w = .ok (.agg #[]) w := by kernel_rfl

/-- What Joined answers. -/
def joinV (s : Nat × Mt) : Value := .tuple #[if s.1 < 2 then .agg #[.string ByteArray.empty, .int .i64 0, .int .i64 0, .int .i64 0] else .agg #[.string ByteArray.empty, .int .i64 s.2.lo, .int .i64 s.2.hi, .int .i64 (wrap64 (s.2.lv + 1))], .bool (decide (2 ≤ s.1))]
theorem res_join (tmps : Array Value) (b : Nat) (ok : Bool) (hp : tmps.getD 4 undef = .pointer (some ⟨b, 0, none⟩)) (h3 : tmps.getD 5 undef = .bool ok) (W : World) (v0 v1 v2 v3 : Value) (hb : W.heap[b]? = some (.cells #[v0, v1, v2, v3] 31 (0, 0))) :
    (results Try.f11 tmps).run Try.prog W = .ok (.tuple #[.agg #[v0, v1, v2, v3], .bool ok]) W := by
  have hp' : tmps[4]?.getD undef = .pointer (some ⟨b, 0, none⟩) := by simpa using hp
  have h3' : tmps[5]?.getD undef = .bool ok := by simpa using h3
  have hc0 : W.cell? ⟨b, 0, none⟩ = some v0 := by simp [World.cell?, hb]
  have hc1 : W.cell? ⟨b, 1, none⟩ = some v1 := by simp [World.cell?, hb]
  have hc2 : W.cell? ⟨b, 2, none⟩ = some v2 := by simp [World.cell?, hb]
  have hc3 : W.cell? ⟨b, 3, none⟩ = some v3 := by simp [World.cell?, hb]
  simp [results, Try.results11, hp', h3', go_sem, hc0, hc1, hc2, hc3]
theorem set4 {X : World} {b : Nat} {z0 z1 z2 z3 : Value} {t : TypeId} (h : X.heap[b]? = some (.cells #[z0, z1, z2, z3] t)) (v0 v1 v2 v3 : Value) : ((((X.setCell ⟨b, 0, none⟩ v0).setCell ⟨b, 1, none⟩ v1).setCell ⟨b, 2, none⟩ v2).setCell ⟨b, 3, none⟩ v3).heap[b]? = some (.cells #[v0, v1, v2, v3] t) :=
  heap_setCell_same (heap_setCell_same (heap_setCell_same (heap_setCell_same h v0) v1) v2) v3

theorem keep3 (X : World) (G M i : Nat) (u : Value) (hM : ¬ M = G) {v1 v2 v3 : Value} (h : X.cell? ⟨M, 1, none⟩ = some v1 ∧ X.cell? ⟨M, 2, none⟩ = some v2 ∧ X.cell? ⟨M, 3, none⟩ = some v3) : (X.setCell ⟨G, i, none⟩ u).cell? ⟨M, 1, none⟩ = some v1 ∧ (X.setCell ⟨G, i, none⟩ u).cell? ⟨M, 2, none⟩ = some v2 ∧ (X.setCell ⟨G, i, none⟩ u).cell? ⟨M, 3, none⟩ = some v3 := by
  have hb : (X.setCell ⟨G, i, none⟩ u).heap[M]? = X.heap[M]? := Below.heap_setCell _ _ _ _ (by simp; omega)
  exact ⟨(World.cell?_of_block (w := X) hb).trans h.1, (World.cell?_of_block (w := X) hb).trans h.2.1, (World.cell?_of_block (w := X) hb).trans h.2.2⟩
/-- The world of Joined: the set, the result's cells, the joined block's, the block's at hand. -/
structure JW (w : World) (G M : Nat) (ns : List ByteArray) (cs ms : Array Value) (X : World) : Prop where
  map : X.ownsMap Try.prog 9 unitElem (w.heap.size + 1) ns.length (Nd ns)
  res : X.heap[w.heap.size]? = some (.cells #[.string ByteArray.empty, .int .i64 0, .int .i64 0, .int .i64 0] 31)
  one : X.heap[G]? = some (.cells cs 31)
  here : X.heap[M]? = some (.cells ms 31)
  below : Below w.heap.size w X
theorem JW.set {w X : World} {G M : Nat} {ns : List ByteArray} {cs ms : Array Value} (h : JW w G M ns cs ms X) (hG : w.heap.size + 1 < G) (hM : ¬ M = G) (i : Nat) (u : Value) : JW w G M ns (cs.set! i u) ms (X.setCell ⟨G, i, none⟩ u) where
  map := h.map.setCell (by simp; omega) u
  res := by rw [Below.heap_setCell _ _ _ _ (by simp; omega)]; exact h.res
  one := heap_setCell_same h.one u
  here := by rw [Below.heap_setCell _ _ _ _ (by simp; omega)]; exact h.here
  below := h.below.setCell (p := ⟨G, i, none⟩) (by simp; omega) u
theorem JW.drew {w X : World} {G M : Nat} {ns : List ByteArray} {cs ms : Array Value} (h : JW w G M ns cs ms X) : JW w G M ns cs ms X.drew := ⟨h.map.drew, h.res, h.one, h.here, h.below.drew⟩

set_option maxRecDepth 100000 in
set_option maxHeartbeats 2000000 in
theorem joined_any (v vn : Value) (L : List Mt) (ns : List ByteArray) (w : World) (h : MtAt w v L) (hn : StAt w vn ns) (hl : L.length ≤ 1000) (hln : ns.length ≤ 100000) (hsn : ∀ n ∈ ns, n.size ≤ maxLen) (hsl : ∀ m ∈ L, m.nm.size ≤ maxLen) :
    Calls Try.prog 11 #[v, vn] w fun e w' => e = .returned (joinV (joinF ns L)) ∧ Below w.heap.size w w' := by
  obtain ⟨a1, c1, rfl, -⟩ := id h
  obtain ⟨a2, c2, rfl, -⟩ := id hn
  have HL : Hid (MtAt w (.slice a1 L.length c1) L) := h
  have HN : Hid (StAt w (.slice a2 ns.length c2) ns) := hn
  have HSN : Hid (∀ n ∈ ns, n.size ≤ maxLen) := hsn
  have HSL : Hid (∀ m ∈ L, m.nm.size ≤ maxLen) := hsl
  clear h hn hsn hsl
  have hmm := @run_makeMap Try.prog
  go_enter Try.func11, Try.ntmps11
  go_wp2
  go_loopg [18] ns.length (fun g i wr => ∃ (k : Nat), k ≤ ns.length ∧ g = ns.length - k ∧ i = .int .i64 k ∧ Hid (wr.ownsMap Try.prog 9 unitElem (w.heap.size + 1) k (Nd (ns.take k))) ∧ Hid (wr.heap[w.heap.size]? = some (.cells #[.string ByteArray.empty, .int .i64 0, .int .i64 0, .int .i64 0] 31)) ∧ Hid (Below w.heap.size w wr))
  case atStart =>
    refine ⟨0, Nat.zero_le _, rfl, rfl, ?_, ?_, ((Below.refl _ _).alloc (Nat.le_refl _) _).alloc (by simp) _⟩
    · show World.ownsMap _ _ _ _ _ _ _
      have h9 := World.ownsMap_made (H := Unit) (w.alloc (.cells #[.string ByteArray.empty, .int .i64 0, .int .i64 0, .int .i64 0] 31)) Try.prog 9 unitElem
      have e : (w.alloc (.cells #[.string ByteArray.empty, .int .i64 0, .int .i64 0, .int .i64 0] 31)).heap.size = w.heap.size + 1 := by simp
      rw [e] at h9
      exact h9
    · show _ = _
      rw [Below.heap_alloc _ _ _ (by simp)]
      exact heap_alloc_new w _
  case round =>
    obtain ⟨k, hk, hgk, rfl, hmap, hres, hbel⟩ := hrel
    have hsw := hbel.out.size
    clear hmm
    by_cases hlt : k < ns.length
    · obtain ⟨b0, o0, e0, hone⟩ := StAt.one HN.out k hlt
      subst e0
      have g0 := hone wr hbel.out
      have hkey : keyOf Try.prog 9 (.string ns[k]) = some (.string ns[k].data.toList) := WideMaps.keyOf_string_mk Try.underlying9 (HSN.out _ (List.getElem_mem hlt))
      have HST : Hid (Nd (ns.take (k + 1)) = (Nd (ns.take k)).put (.string ns[k].data.toList) (.agg [])) := by
        show _ = _
        rw [List.take_succ_eq_append_getElem hlt, Nd_snoc]
      generalize ns[k] = n at *
      have hkl : (k : Int) < (ns.length : Int) := by omega
      clear hone
      go_wp2_with (at_mapUpdate; refine wpList_mapUpdate_own _ rfl _ _ _ 45 rfl 9 46 keyedS Try.underlying45 (unitElem (H := Unit)) (w.heap.size + 1) k _ rfl hmap.out (by unfold maxLen; omega) _ _ _ rfl rfl hkey _ [] unitElem_mk ?_; intro w1 hown1 hgrow1)
      go_roundg (ns.length - (k + 1))
      case rel =>
        refine ⟨k + 1, by omega, rfl, by go_num, ?_, ?_, hbel.out.grown hgrow1 hsw (fun j hj => by cases hj; omega)⟩
        · show World.ownsMap _ _ _ _ _ _ _
          rw [HST.out]; exact hown1
        · show _ = _
          rw [hgrow1.block w.heap.size (by have := hmap.out.lt; omega) (by intro e; simp at e)]; exact hres.out
      case measure => omega
    · have hkl : ¬ (k : Int) < (ns.length : Int) := by omega
      have hke : ns.take k = ns := List.take_of_length_le (by omega)
      rw [hke] at hmap
      have hgm := hmap.out.lt
      go_wp2
      generalize hG : wr.heap.size = G at *
      go_loopg [10, 28] L.length (fun g mv i wx => ∃ (k : Nat), k ≤ L.length ∧ g = L.length - k ∧ i = .int .i64 k ∧ mv = .int .i64 (joinF ns (L.take k)).1 ∧ Hid (wx.ownsMap Try.prog 9 unitElem (w.heap.size + 1) ns.length (Nd ns)) ∧ Hid (wx.heap[w.heap.size]? = some (.cells #[.string ByteArray.empty, .int .i64 0, .int .i64 0, .int .i64 0] 31)) ∧ Hid (wx.heap[G]? = some (.cells (mtV (joinF ns (L.take k)).2).toArray 31)) ∧ Hid (Below w.heap.size w wx))
      case atStart =>
        subst hG
        refine ⟨0, Nat.zero_le _, rfl, rfl, rfl, ?_, ?_, ?_, hbel.out.alloc hsw _⟩
        · exact (hmap.out.mono hk).alloc _
        · show _ = _
          rw [Below.heap_alloc _ _ _ (by omega)]; exact hres.out
        · exact heap_alloc_new wr _
      case round =>
        clear hmap hres hbel hgk hlt hkl hke
        obtain ⟨k, hk, hgk, rfl, rfl, hmap, hres, hone1, hbel⟩ := hrel
        have hsw := hbel.out.size
        have hgx : G < wr.heap.size := (Array.getElem?_eq_some_iff.1 hone1.out).1
        have hmt : (joinF ns (L.take k)).1 ≤ k := by
          rw [joinF_1]
          have h1 := List.countP_le_length (p := inF ns) (l := L.take k)
          rw [List.length_take] at h1
          omega
        by_cases hlt : k < L.length
        · obtain ⟨b0, o0, e0, hcell⟩ := MtAt.one HL.out k hlt
          subst e0
          obtain ⟨g0, g1, g2, g3⟩ := hcell wr hbel.out
          have hkey : keyOf Try.prog 9 (.string L[k].nm) = some (.string L[k].nm.data.toList) := WideMaps.keyOf_string_mk Try.underlying9 (HSL.out _ (List.getElem_mem hlt))
          have HST : Hid (joinF ns (L.take (k + 1)) = jStep ns (joinF ns (L.take k)) L[k]) := by
            show _ = _
            rw [List.take_succ_eq_append_getElem hlt, joinF_snoc]
          have hhas : Maps.has (Nd ns) (.string L[k].nm.data.toList) = inF ns L[k] := has_Nd ns L[k].nm
          have hkl : (k : Int) < (L.length : Int) := by omega
          have HMP : Hid (∀ o, (wr.alloc o).ownsMap Try.prog 9 unitElem (w.heap.size + 1) ns.length (Nd ns)) := fun o => hmap.out.alloc o
          clear hcell
          generalize L[k] = m at *
          generalize joinF ns (L.take k) = s at *
          obtain ⟨met, o⟩ := s
          dsimp only at *
          obtain ⟨X, hX⟩ : ∃ X, X = (wr.alloc (.cells #[.string m.nm, .int .i64 m.lo, .int .i64 m.hi, .int .i64 m.lv] 31)).alloc (.cells #[] 46) := ⟨_, rfl⟩
          have hXG : X.heap[G]? = some (.cells (mtV o).toArray 31) := by
            rw [hX, Below.heap_alloc _ _ _ (by simp; omega), Below.heap_alloc _ _ _ hgx]; exact hone1.out
          have hXM : X.heap[wr.heap.size]? = some (.cells #[.string m.nm, .int .i64 m.lo, .int .i64 m.hi, .int .i64 m.lv] 31) := by
            rw [hX, Below.heap_alloc _ _ _ (by simp)]; exact heap_alloc_new wr _
          have HXR : Hid (X.heap[w.heap.size]? = some (.cells #[.string ByteArray.empty, .int .i64 0, .int .i64 0, .int .i64 0] 31)) := by
            show _ = _
            have := (Array.getElem?_eq_some_iff.1 hres.out).1
            rw [hX, Below.heap_alloc _ _ _ (by simp; omega), Below.heap_alloc _ _ _ this]; exact hres.out
          have HXB : Hid (Below w.heap.size w X) := by rw [hX]; exact (hbel.out.alloc hsw _).alloc (by simp; omega) _
          have HXP : Hid (X.ownsMap Try.prog 9 unitElem (w.heap.size + 1) ns.length (Nd ns)) := by rw [hX]; exact (HMP.out _).alloc _
          have hG1 : w.heap.size + 1 < G := hgm
          cases hin : inF ns m
          · rw [hin] at hhas
            go_wp2_with (at_lookup; refine wpList_lookup_own_unit _ rfl _ _ 45 rfl 9 46 keyedS Try.underlying45 (zeroU _) (w.heap.size + 1) ns.length _ rfl (HMP.out _) _ _ rfl hkey ?_)
            rw [← hX]
            go_roundg (L.length - (k + 1))
            case rel =>
              have h9 : joinF ns (L.take (k + 1)) = (met, o) := by rw [HST.out]; unfold jStep; rw [hin]; rfl
              refine ⟨k + 1, by omega, rfl, by go_num, by rw [h9], HXP.out, HXR.out, ?_, HXB.out⟩
              show _ = _
              rw [h9]
              exact hXG
            case measure => omega
          · rw [hin] at hhas
            go_upto_if 42 with (at_lookup; refine wpList_lookup_own_unit _ rfl _ _ 45 rfl 9 46 keyedS Try.underlying45 (zeroU _) (w.heap.size + 1) ns.length _ rfl (HMP.out _) _ _ rfl hkey ?_)
            rw [← hX]
            obtain ⟨on, o1, o2, o3⟩ := o
            obtain ⟨mn, m1, m2, m3⟩ := m
            dsimp only at *
            have c0 : X.cell? ⟨G, 0, none⟩ = some (.string on) := World.news_of_block hXG 0 _ rfl
            have c1' : X.cell? ⟨G, 1, none⟩ = some (.int .i64 o1) := World.news_of_block hXG 1 _ rfl
            have c2' : X.cell? ⟨G, 2, none⟩ = some (.int .i64 o2) := World.news_of_block hXG 2 _ rfl
            have c3 : X.cell? ⟨G, 3, none⟩ = some (.int .i64 o3) := World.news_of_block hXG 3 _ rfl
            have d0 : X.cell? ⟨wr.heap.size, 0, none⟩ = some (.string mn) := World.news_of_block hXM 0 _ rfl
            have d1 : X.cell? ⟨wr.heap.size, 1, none⟩ = some (.int .i64 m1) := World.news_of_block hXM 1 _ rfl
            have d2 : X.cell? ⟨wr.heap.size, 2, none⟩ = some (.int .i64 m2) := World.news_of_block hXM 2 _ rfl
            have d3 : X.cell? ⟨wr.heap.size, 3, none⟩ = some (.int .i64 m3) := World.news_of_block hXM 3 _ rfl
            have q0 : X.frozen? ⟨G, 0, none⟩ = false := frozen_of_heap hXG
            have q1 : X.frozen? ⟨G, 1, none⟩ = false := frozen_of_heap hXG
            have q2 : X.frozen? ⟨G, 2, none⟩ = false := frozen_of_heap hXG
            have q3 : X.frozen? ⟨G, 3, none⟩ = false := frozen_of_heap hXG
            have HXG : Hid (X.heap[G]? = some (.cells (mtV ⟨on, o1, o2, o3⟩).toArray 31)) := hXG
            have HXM : Hid (X.heap[wr.heap.size]? = some (.cells #[.string mn, .int .i64 m1, .int .i64 m2, .int .i64 m3] 31)) := hXM
            have hneq : ¬ wr.heap.size = G := by omega
            clear hX hXG hXM hmap hres hone1 hbel HMP g0 g1 g2 g3 hhas hkey
            have HJ : Hid (JW w G wr.heap.size ns (mtV ⟨on, o1, o2, o3⟩).toArray #[.string mn, .int .i64 m1, .int .i64 m2, .int .i64 m3] X) := ⟨HXP.out, HXR.out, HXG.out, HXM.out, HXB.out⟩
            clear HXP HXR HXG HXM HXB
            go_cut [9] from 29 to 63 (fun pv wx => pv = .pointer (some ⟨G, 0, none⟩) ∧ ∃ p : Mt, Hid (p = if met = 0 then (⟨mn, m1, m2, m3⟩ : Mt) else ⟨on, o1, o2, o3⟩) ∧ Hid (JW w G wr.heap.size ns (mtV p).toArray #[.string mn, .int .i64 m1, .int .i64 m2, .int .i64 m3] wx))
            case first =>
              by_cases h0 : met = 0
              · have h0i : ((met : Int) == 0) = true := by simp [h0]
                go_wp2_with fail
                go_meet
                exact ⟨rfl, ⟨mn, m1, m2, m3⟩, by show _ = _; rw [if_pos h0], (((HJ.out.set hG1 hneq 0 _).set hG1 hneq 1 _).set hG1 hneq 2 _).set hG1 hneq 3 _⟩
              · have h0i : ((met : Int) == 0) = false := by simp [h0]
                go_wp2_with fail
                go_meet
                exact ⟨rfl, ⟨on, o1, o2, o3⟩, by show _ = _; rw [if_neg h0], HJ.out⟩
            case rest =>
              clear HJ c0 c1' c2' c3 d0 d1 d2 d3 q0 q1 q2 q3
              obtain ⟨rfl, p, HP, HJ⟩ := hcut
              obtain ⟨pn, p1, p2, p3⟩ := p
              have hXG := HJ.out.one
              have hXM := HJ.out.here
              have c1' : wc.cell? ⟨G, 1, none⟩ = some (.int .i64 p1) := World.news_of_block hXG 1 _ rfl
              have c2' : wc.cell? ⟨G, 2, none⟩ = some (.int .i64 p2) := World.news_of_block hXG 2 _ rfl
              have c3 : wc.cell? ⟨G, 3, none⟩ = some (.int .i64 p3) := World.news_of_block hXG 3 _ rfl
              have d1 : wc.cell? ⟨wr.heap.size, 1, none⟩ = some (.int .i64 m1) := World.news_of_block hXM 1 _ rfl
              have d2 : wc.cell? ⟨wr.heap.size, 2, none⟩ = some (.int .i64 m2) := World.news_of_block hXM 2 _ rfl
              have d3 : wc.cell? ⟨wr.heap.size, 3, none⟩ = some (.int .i64 m3) := World.news_of_block hXM 3 _ rfl
              have q1 : wc.frozen? ⟨G, 1, none⟩ = false := frozen_of_heap hXG
              have q2 : wc.frozen? ⟨G, 2, none⟩ = false := frozen_of_heap hXG
              have q3 : wc.frozen? ⟨G, 3, none⟩ = false := frozen_of_heap hXG
              clear hXG hXM
              go_upto_region 16 with fail
              have HC : Hid (∀ X, X = (((wc.drew.setCell ⟨G, 1, none⟩ (.int .i64 (min p1 m1))).setCell ⟨G, 2, none⟩ (.int .i64 (max p2 m2))).setCell ⟨G, 3, none⟩ (.int .i64 (max p3 m3))) → JW w G wr.heap.size ns (mtV ⟨pn, min p1 m1, max p2 m2, max p3 m3⟩).toArray #[.string mn, .int .i64 m1, .int .i64 m2, .int .i64 m3] X) := fun X hX => by rw [hX]; exact ((HJ.out.drew.set hG1 hneq 1 (.int .i64 (min p1 m1))).set hG1 hneq 2 (.int .i64 (max p2 m2))).set hG1 hneq 3 (.int .i64 (max p3 m3))
              go_cut [9] from 29 to 63 (fun pv wx => pv = .pointer (some ⟨G, 0, none⟩) ∧ Hid (JW w G wr.heap.size ns (mtV ⟨pn, min p1 m1, max p2 m2, max p3 m3⟩).toArray #[.string mn, .int .i64 m1, .int .i64 m2, .int .i64 m3] wx))
              case first =>
                clear HL HN HSN HSL HP HST HJ hin hlt hkl hk hgk hsw hgx hmt
                have hS0 : wc.drew.cell? ⟨G, 1, none⟩ = some (.int .i64 p1) ∧ wc.drew.cell? ⟨G, 2, none⟩ = some (.int .i64 p2) ∧ wc.drew.cell? ⟨G, 3, none⟩ = some (.int .i64 p3) := ⟨c1', c2', c3⟩
                have hR0 : wc.drew.cell? ⟨wr.heap.size, 1, none⟩ = some (.int .i64 m1) ∧ wc.drew.cell? ⟨wr.heap.size, 2, none⟩ = some (.int .i64 m2) ∧ wc.drew.cell? ⟨wr.heap.size, 3, none⟩ = some (.int .i64 m3) := ⟨d1, d2, d3⟩
                have HRK : Hid (∀ (X : World) (i : Nat) (u : Value), (X.cell? ⟨wr.heap.size, 1, none⟩ = some (.int .i64 m1) ∧ X.cell? ⟨wr.heap.size, 2, none⟩ = some (.int .i64 m2) ∧ X.cell? ⟨wr.heap.size, 3, none⟩ = some (.int .i64 m3)) → (X.setCell ⟨G, i, none⟩ u).cell? ⟨wr.heap.size, 1, none⟩ = some (.int .i64 m1) ∧ (X.setCell ⟨G, i, none⟩ u).cell? ⟨wr.heap.size, 2, none⟩ = some (.int .i64 m2) ∧ (X.setCell ⟨G, i, none⟩ u).cell? ⟨wr.heap.size, 3, none⟩ = some (.int .i64 m3)) := fun X i u h => keep3 X G wr.heap.size i u hneq h
                refine wp_region_K 16 (fun X => X.cell? ⟨G, 1, none⟩ = some (.int .i64 p1) ∧ X.cell? ⟨G, 2, none⟩ = some (.int .i64 p2) ∧ X.cell? ⟨G, 3, none⟩ = some (.int .i64 p3)) (fun X => X.cell? ⟨wr.heap.size, 1, none⟩ = some (.int .i64 m1) ∧ X.cell? ⟨wr.heap.size, 2, none⟩ = some (.int .i64 m2) ∧ X.cell? ⟨wr.heap.size, 3, none⟩ = some (.int .i64 m3)) (by kernel_rfl) ?_
                refine kTakeK (i := 0) (v := ?_) 44 rfl rfl (by kernel_rfl) (by kernel_rfl) (by kernel_rfl) (fun _ _ _ h => h) (by kernel_rfl) (Or.inl ⟨by rfl, ?_⟩) ⟨fun _ => hS0, hR0⟩ ?_
                rotate_left
                focus (rintro X ⟨s1, s2, s3⟩; go_simp; try (with_reducible rfl))
                try simp only [Act.put, List.setIfInBounds_toArray, List.set_cons_zero, List.set_cons_succ]
                refine kTakeL (i := 1) (v := ?_) 45 rfl rfl (by kernel_rfl) (by kernel_rfl) (by kernel_rfl) (fun _ _ _ h => h) (by kernel_rfl) (by kernel_rfl) (Or.inl ⟨by rfl, ?_⟩) hS0 hR0 ?_
                rotate_left
                focus (rintro X ⟨s1, s2, s3⟩; go_simp; try (with_reducible rfl))
                try simp only [Act.put, List.setIfInBounds_toArray, List.set_cons_zero, List.set_cons_succ]
                refine kTakeK (i := 2) (v := ?_) 46 rfl rfl (by kernel_rfl) (by kernel_rfl) (by kernel_rfl) (fun _ _ _ h => h) (by kernel_rfl) (Or.inl ⟨by rfl, ?_⟩) ⟨fun _ => hS0, hR0⟩ ?_
                rotate_left
                focus (rintro X ⟨s1, s2, s3⟩; go_simp; try (with_reducible rfl))
                try simp only [Act.put, List.setIfInBounds_toArray, List.set_cons_zero, List.set_cons_succ]
                refine kTakeK (i := 3) (v := ?_) 47 rfl rfl (by kernel_rfl) (by kernel_rfl) (by kernel_rfl) (fun _ _ _ h => h) (by kernel_rfl) (Or.inl ⟨by rfl, ?_⟩) ⟨fun _ => hS0, hR0⟩ ?_
                rotate_left
                focus (rintro X ⟨s1, s2, s3⟩; go_simp; try (with_reducible rfl))
                try simp only [Act.put, List.setIfInBounds_toArray, List.set_cons_zero, List.set_cons_succ]
                refine kTakeK (i := 4) (v := ?_) 48 rfl rfl (by kernel_rfl) (by kernel_rfl) (by kernel_rfl) (fun _ _ _ h => h) (by kernel_rfl) (Or.inl ⟨by rfl, ?_⟩) ⟨fun _ => hS0, hR0⟩ ?_
                rotate_left
                focus (rintro X ⟨s1, s2, s3⟩; go_simp; try (with_reducible rfl))
                try simp only [Act.put, List.setIfInBounds_toArray, List.set_cons_zero, List.set_cons_succ]
                refine kTakeK (i := 5) (v := ?_) 49 rfl rfl (by kernel_rfl) (by kernel_rfl) (by kernel_rfl) (fun _ _ _ h => h) (by kernel_rfl) (Or.inl ⟨by rfl, ?_⟩) ⟨fun _ => hS0, hR0⟩ ?_
                rotate_left
                focus (rintro X ⟨s1, s2, s3⟩; go_simp; try (with_reducible rfl))
                try simp only [Act.put, List.setIfInBounds_toArray, List.set_cons_zero, List.set_cons_succ]
                refine kTakeL (i := 6) (v := ?_) 50 rfl rfl (by kernel_rfl) (by kernel_rfl) (by kernel_rfl) (fun _ _ _ h => h) (by kernel_rfl) (by kernel_rfl) (Or.inl ⟨by rfl, ?_⟩) hS0 hR0 ?_
                rotate_left
                focus (rintro X ⟨s1, s2, s3⟩; go_simp; try (with_reducible rfl))
                try simp only [Act.put, List.setIfInBounds_toArray, List.set_cons_zero, List.set_cons_succ]
                refine kTakeK (i := 7) (v := ?_) 51 rfl rfl (by kernel_rfl) (by kernel_rfl) (by kernel_rfl) (fun _ _ _ h => h) (by kernel_rfl) (Or.inl ⟨by rfl, ?_⟩) ⟨fun _ => hS0, hR0⟩ ?_
                rotate_left
                focus (rintro X ⟨s1, s2, s3⟩; go_simp; try (with_reducible rfl))
                try simp only [Act.put, List.setIfInBounds_toArray, List.set_cons_zero, List.set_cons_succ]
                refine kTakeK (i := 8) (v := ?_) 52 rfl rfl (by kernel_rfl) (by kernel_rfl) (by kernel_rfl) (fun _ _ _ h => h) (by kernel_rfl) (Or.inl ⟨by rfl, ?_⟩) ⟨fun _ => hS0, hR0⟩ ?_
                rotate_left
                focus (rintro X ⟨s1, s2, s3⟩; go_simp; try (with_reducible rfl))
                try simp only [Act.put, List.setIfInBounds_toArray, List.set_cons_zero, List.set_cons_succ]
                refine kTakeK (i := 9) (v := ?_) 53 rfl rfl (by kernel_rfl) (by kernel_rfl) (by kernel_rfl) (fun _ _ _ h => h) (by kernel_rfl) (Or.inl ⟨by rfl, ?_⟩) ⟨fun _ => hS0, hR0⟩ ?_
                rotate_left
                focus (rintro X ⟨s1, s2, s3⟩; go_simp; try (with_reducible rfl))
                try simp only [Act.put, List.setIfInBounds_toArray, List.set_cons_zero, List.set_cons_succ]
                refine kTakeK (i := 10) (v := ?_) 54 rfl rfl (by kernel_rfl) (by kernel_rfl) (by kernel_rfl) (fun _ _ _ h => h) (by kernel_rfl) (Or.inl ⟨by rfl, ?_⟩) ⟨fun _ => hS0, hR0⟩ ?_
                rotate_left
                focus (rintro X ⟨s1, s2, s3⟩; go_simp; try (with_reducible rfl))
                try simp only [Act.put, List.setIfInBounds_toArray, List.set_cons_zero, List.set_cons_succ]
                refine kTakeL (i := 11) (v := ?_) 55 rfl rfl (by kernel_rfl) (by kernel_rfl) (by kernel_rfl) (fun _ _ _ h => h) (by kernel_rfl) (by kernel_rfl) (Or.inl ⟨by rfl, ?_⟩) hS0 hR0 ?_
                rotate_left
                focus (rintro X ⟨s1, s2, s3⟩; go_simp; try (with_reducible rfl))
                try simp only [Act.put, List.setIfInBounds_toArray, List.set_cons_zero, List.set_cons_succ]
                refine kTakeK (i := 12) (v := ?_) 56 rfl rfl (by kernel_rfl) (by kernel_rfl) (by kernel_rfl) (fun _ _ _ h => h) (by kernel_rfl) (Or.inl ⟨by rfl, ?_⟩) ⟨fun _ => hS0, hR0⟩ ?_
                rotate_left
                focus (rintro X ⟨s1, s2, s3⟩; go_simp; try (with_reducible rfl))
                try simp only [Act.put, List.setIfInBounds_toArray, List.set_cons_zero, List.set_cons_succ]
                refine kTakeK (i := 13) (v := ?_) 57 rfl rfl (by kernel_rfl) (by kernel_rfl) (by kernel_rfl) (fun _ _ _ h => h) (by kernel_rfl) (Or.inl ⟨by rfl, ?_⟩) ⟨fun _ => hS0, hR0⟩ ?_
                rotate_left
                focus (rintro X ⟨s1, s2, s3⟩; go_simp; try (with_reducible rfl))
                try simp only [Act.put, List.setIfInBounds_toArray, List.set_cons_zero, List.set_cons_succ]
                refine kTakeK (i := 14) (v := ?_) 58 rfl rfl (by kernel_rfl) (by kernel_rfl) (by kernel_rfl) (fun _ _ _ h => h) (by kernel_rfl) (Or.inl ⟨by rfl, ?_⟩) ⟨fun _ => hS0, hR0⟩ ?_
                rotate_left
                focus (rintro X ⟨s1, s2, s3⟩; go_simp; try (with_reducible rfl))
                try simp only [Act.put, List.setIfInBounds_toArray, List.set_cons_zero, List.set_cons_succ]
                refine kTakeK (i := 15) (v := ?_) 59 rfl rfl (by kernel_rfl) (by kernel_rfl) (by kernel_rfl) (fun _ _ _ h => h) (by kernel_rfl) (Or.inl ⟨by rfl, ?_⟩) ⟨fun _ => hS0, hR0⟩ ?_
                rotate_left
                focus (rintro X ⟨s1, s2, s3⟩; go_simp; try (with_reducible rfl))
                try simp only [Act.put, List.setIfInBounds_toArray, List.set_cons_zero, List.set_cons_succ]
                refine kNextT (i := 16) (by kernel_rfl) (by kernel_rfl) rfl (fun K hK => ?_)
                go_simp
                refine hK.out _ _ (HRK.out _ _ _ hR0) ?_
                clear hK K
                clear hS0
                have hR1 := HRK.out _ 1 (.int .i64 (min p1 m1)) hR0
                try simp only [Act.put, List.setIfInBounds_toArray, List.set_cons_zero, List.set_cons_succ]
                refine kTakeK (i := 17) (v := ?_) 60 rfl rfl (by kernel_rfl) (by kernel_rfl) (by kernel_rfl) (fun _ _ _ h => h) (by kernel_rfl) (Or.inl ⟨by rfl, ?_⟩) ⟨fun h => absurd h (by decide), hR1⟩ ?_
                rotate_left
                focus (rintro X ⟨s1, s2, s3⟩; go_simp; try (with_reducible rfl))
                try simp only [Act.put, List.setIfInBounds_toArray, List.set_cons_zero, List.set_cons_succ]
                refine kNextT (i := 18) (by kernel_rfl) (by kernel_rfl) rfl (fun K hK => ?_)
                go_simp
                refine hK.out _ _ (HRK.out _ _ _ hR1) ?_
                clear hK K
                have hR2 := HRK.out _ 2 (.int .i64 (max p2 m2)) hR1
                try simp only [Act.put, List.setIfInBounds_toArray, List.set_cons_zero, List.set_cons_succ]
                refine kTakeK (i := 19) (v := ?_) 61 rfl rfl (by kernel_rfl) (by kernel_rfl) (by kernel_rfl) (fun _ _ _ h => h) (by kernel_rfl) (Or.inl ⟨by rfl, ?_⟩) ⟨fun h => absurd h (by decide), hR2⟩ ?_
                rotate_left
                focus (rintro X ⟨s1, s2, s3⟩; go_simp; try (with_reducible rfl))
                try simp only [Act.put, List.setIfInBounds_toArray, List.set_cons_zero, List.set_cons_succ]
                refine kNextT (i := 20) (by kernel_rfl) (by kernel_rfl) rfl (fun K hK => ?_)
                go_simp
                refine hK.out _ _ (HRK.out _ _ _ hR2) ?_
                clear hK K
                try simp only [Act.put, List.setIfInBounds_toArray, List.set_cons_zero, List.set_cons_succ]
                refine kEnd (by kernel_rfl) ?_ _
                go_wp2_with fail
                go_meet
                exact ⟨rfl, HC.out _ rfl⟩
              case rest =>
                clear HJ c1' c2' c3 d1 d2 d3 q1 q2 q3 HC
                obtain ⟨rfl, HJ⟩ := hcut
                go_wp2_with fail
                go_roundg (L.length - (k + 1))
                case rel =>
                  have h9 : joinF ns (L.take (k + 1)) = (met + 1, ⟨pn, min p1 m1, max p2 m2, max p3 m3⟩) := by
                    rw [HST.out]
                    unfold jStep
                    rw [if_pos hin]
                    dsimp only
                    rw [← HP.out]
                  have J := HJ.out
                  refine ⟨k + 1, by omega, rfl, by go_num, by rw [h9]; go_num, J.map, J.res, ?_, J.below⟩
                  show _ = _
                  rw [h9]
                  exact J.one
                case measure => omega
        · have hkl : ¬ (k : Int) < (L.length : Int) := by omega
          have hke : L.take k = L := List.take_of_length_le (by omega)
          rw [hke] at hone1 hmt ⊢
          obtain ⟨s, hs⟩ : ∃ s, s = joinF ns L := ⟨_, rfl⟩
          have HS : Hid (joinF ns L = s) := hs.symm
          rw [← hs] at hone1 hmt ⊢
          clear hs
          obtain ⟨met, on, o1, o2, o3⟩ := s
          dsimp only at *
          have hXG := hone1.out
          have hXR := hres.out
          have c0 : wr.cell? ⟨G, 0, none⟩ = some (.string on) := World.news_of_block hXG 0 _ rfl
          have c1' : wr.cell? ⟨G, 1, none⟩ = some (.int .i64 o1) := World.news_of_block hXG 1 _ rfl
          have c2' : wr.cell? ⟨G, 2, none⟩ = some (.int .i64 o2) := World.news_of_block hXG 2 _ rfl
          have c3 : wr.cell? ⟨G, 3, none⟩ = some (.int .i64 o3) := World.news_of_block hXG 3 _ rfl
          have q0 : wr.frozen? ⟨G, 0, none⟩ = false := frozen_of_heap hXG
          have q3 : wr.frozen? ⟨G, 3, none⟩ = false := frozen_of_heap hXG
          have d0 : wr.cell? ⟨w.heap.size, 0, none⟩ = some (.string ByteArray.empty) := World.news_of_block hXR 0 _ rfl
          have d1 : wr.cell? ⟨w.heap.size, 1, none⟩ = some (.int .i64 0) := World.news_of_block hXR 1 _ rfl
          have d2 : wr.cell? ⟨w.heap.size, 2, none⟩ = some (.int .i64 0) := World.news_of_block hXR 2 _ rfl
          have d3 : wr.cell? ⟨w.heap.size, 3, none⟩ = some (.int .i64 0) := World.news_of_block hXR 3 _ rfl
          have r0 : wr.frozen? ⟨w.heap.size, 0, none⟩ = false := frozen_of_heap hXR
          have r1 : wr.frozen? ⟨w.heap.size, 1, none⟩ = false := frozen_of_heap hXR
          have r2 : wr.frozen? ⟨w.heap.size, 2, none⟩ = false := frozen_of_heap hXR
          have r3 : wr.frozen? ⟨w.heap.size, 3, none⟩ = false := frozen_of_heap hXR
          have hneq : ¬ w.heap.size = G := by omega
          have hneq' : ¬ G = w.heap.size := by omega
          clear hXG hXR
          by_cases h2 : met < 2
          · have h2i : (met : Int) < 2 := by omega
            go_wp2_with fail
            refine bodyPost_ret (res_join _ _ false rfl rfl _ _ _ _ _ (set4 hres.out _ _ _ _)) rfl ⟨?_, ?_⟩
            · rw [HS.out]
              unfold joinV
              rw [if_pos h2, decide_eq_false (by omega)]
              rfl
            · exact (((hbel.out.setCell (p := ⟨w.heap.size, 0, none⟩) (Nat.le_refl _) _).setCell (p := ⟨w.heap.size, 1, none⟩) (Nat.le_refl _) _).setCell (p := ⟨w.heap.size, 2, none⟩) (Nat.le_refl _) _).setCell (p := ⟨w.heap.size, 3, none⟩) (Nat.le_refl _) _
          · have h2i : ¬ (met : Int) < 2 := by omega
            go_wp2_with fail
            have h8 : ((wr.setCell ⟨G, 0, none⟩ (.string ByteArray.empty)).setCell ⟨G, 3, none⟩ (.int .i64 (wrap64 (o3 + 1)))).heap[w.heap.size]? = some (.cells #[.string ByteArray.empty, .int .i64 0, .int .i64 0, .int .i64 0] 31) := by
              rw [Below.heap_setCell _ _ _ _ (by simp; omega), Below.heap_setCell _ _ _ _ (by simp; omega)]
              exact hres.out
            have h7 : Below w.heap.size w ((wr.setCell ⟨G, 0, none⟩ (.string ByteArray.empty)).setCell ⟨G, 3, none⟩ (.int .i64 (wrap64 (o3 + 1)))) := (hbel.out.setCell (p := ⟨G, 0, none⟩) (by simp; omega) _).setCell (p := ⟨G, 3, none⟩) (by simp; omega) _
            refine bodyPost_ret (res_join _ _ true rfl rfl _ _ _ _ _ (set4 h8 _ _ _ _)) rfl ⟨?_, ?_⟩
            · rw [HS.out]
              unfold joinV
              rw [if_neg h2, decide_eq_true (by omega)]
              rfl
            · exact (((h7.setCell (p := ⟨w.heap.size, 0, none⟩) (Nat.le_refl _) _).setCell (p := ⟨w.heap.size, 1, none⟩) (Nat.le_refl _) _).setCell (p := ⟨w.heap.size, 2, none⟩) (Nat.le_refl _) _).setCell (p := ⟨w.heap.size, 3, none⟩) (Nat.le_refl _) _

end Go.Proofs.Ytfkahbgphoonaaa
