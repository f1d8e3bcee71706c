/- The document's sorted, List, Durable. -/
import Derived.Test.YtipakfdebccchaaME8
namespace Go.Proofs.Ytipakfdebccchaa
open Go.RowKit Go.Maps Go.Sort

theorem pre_iff {s p : ByteArray} : Lib.hasPrefix s.data.toList p.data.toList = true ↔ p.size ≤ s.size ∧ ((s.extract 0 p.size).toList == p.toList) = true := by
  have e1 : (s.extract 0 p.size).data.toList = s.data.toList.take p.size := by
    rw [ByteArray.data_extract, Array.toList_extract]
    simp
  have e2 : p.data.toList.length = p.size := by simp
  have e3 : s.data.toList.length = s.size := by simp
  unfold Lib.hasPrefix
  rw [List.isPrefixOf_iff_prefix, nm_beq, e1, List.prefix_iff_eq_take, e2]
  constructor
  · intro h
    refine ⟨?_, h.symm⟩
    have := congrArg List.length h
    rw [e2, List.length_take, e3] at this
    omega
  · intro h
    exact h.2.symm

theorem StrsAt.lone2 {w : World} {g : Nat} {x : ByteArray} {t : TypeId} {fr : Nat × Nat} (h : w.heap[g]? = some (.cells #[.string x] t fr)) : StrsAt w (.slice (some ⟨g, 0, none⟩) 1 1) [x.data.toList] := by
  have e : encStr x.data.toList = .string x := by simp [encStr]
  exact StrsAt.lone (e ▸ h)
theorem heap_size_alloc1 (w : World) (o : Obj) : (w.alloc o).heap.size = w.heap.size + 1 := by simp
theorem row_new (W : World) (base : Nat) (hb : base ≤ W.heap.size) : (W.alloc (.cells #[] 9 (0, 0))).ownsRow base 9 1 (.slice (some ⟨W.heap.size, 0, none⟩) 0 0) 0 [] :=
  ⟨rfl, Or.inr ⟨W.heap.size, 0, #[], rfl, hb, heap_alloc_new W _, Nat.le_refl _, Nat.zero_le _, rfl, rfl⟩⟩

/-- The three appends. -/
theorem ins_row {w wr w1 w2 w3 : World} {v1 v2 v3 : Value} {xs : List (List UInt8)} {n : List UInt8} {k : Nat} (_hk : k ≤ xs.length) (he : insN xs n = xs.take k ++ n :: xs.drop k) (hbel : Below w.heap.size w wr)
    (hr1 : w1.ownsRow w.heap.size 9 1 v1 (0 + (xs.take k).length) ([] ++ (xs.take k).map encStr)) (hg1 : (wr.alloc (.cells #[] 9 (0, 0))).grownBy w1 (Value.slice (some ⟨wr.heap.size, 0, none⟩) 0 0).ownBlock) {o : Obj}
    (hr2 : w2.ownsRow w.heap.size 9 1 v2 (0 + (xs.take k).length + [n].length) ([] ++ (xs.take k).map encStr ++ [n].map encStr)) (hg2 : (w1.alloc o).grownBy w2 v1.ownBlock)
    (hr3 : w3.ownsRow w.heap.size 9 1 v3 (0 + (xs.take k).length + [n].length + (xs.drop k).length) ([] ++ (xs.take k).map encStr ++ [n].map encStr ++ (xs.drop k).map encStr)) (hg3 : w2.grownBy w3 v2.ownBlock) :
    w3.ownsRow w.heap.size 9 1 v3 (insN xs n).length ((insN xs n).map encStr) ∧ Below w.heap.size w w3 := by
  have h1 : Below w.heap.size w w1 := (hbel.alloc hbel.size _).grown hg1 (by have := hbel.size; simp; omega) (fun j hj => by
    simp [Value.ownBlock] at hj
    have := hbel.size
    omega)
  have h2 := below_grown h1 o hr1 hg2
  have h3 : Below w.heap.size w w3 := h2.grown hg3 h2.size (fun j hj => (hr2.lt j hj).1)
  refine ⟨?_, h3⟩
  have e1 : (insN xs n).length = 0 + (xs.take k).length + [n].length + (xs.drop k).length := by
    rw [he]
    simp
    omega
  have e2 : (insN xs n).map encStr = [] ++ (xs.take k).map encStr ++ [n].map encStr ++ (xs.drop k).map encStr := by
    rw [he]
    simp
  rw [e1, e2]
  exact hr3

theorem below_to {B : Nat} {w a b : World} (h : Below B w a) (g : Below a.heap.size a b) (hb : B ≤ a.heap.size) : Below B w b := h.trans (g.mono hb)

set_option maxRecDepth 100000 in
set_option maxHeartbeats 4000000 in
theorem refSorted_some (g c : Nat) (dir : List (ByteArray × Int)) (p : ByteArray) (w : World) (base : Nat) (hd : w.ownsRow base 90 2 (.slice (some ⟨g, 0, none⟩) dir.length c) dir.length (entCells dir)) (hl : dir.length ≤ 1000) (hp : p.size ≤ maxLen) (hn : ∀ e, e ∈ dir → e.1.size ≤ 64) :
    Calls Try.prog 46 #[.slice (some ⟨g, 0, none⟩) dir.length c, .string p] w fun e w' => ∃ v, e = .returned v ∧ w'.ownsRow w.heap.size 9 1 v (sortN p.data.toList dir).length ((sortN p.data.toList dir).map encStr) ∧ Below w.heap.size w w' := by
  have hcel : ∀ k (hk : k < dir.length), g < w.heap.size ∧ w.cell? ⟨g, k * 2, none⟩ = some (.string dir[k].1) := fun k hk => by
    have h1 := hd.cells (g := g) rfl _ _ (entCells_at dir k hk).1
    rw [Addr.add_lit, Nat.zero_add] at h1
    exact ⟨(hd.lt g rfl).2, h1⟩
  have HC : Hid (∀ k (hk : k < dir.length), g < w.heap.size ∧ w.cell? ⟨g, k * 2, none⟩ = some (.string dir[k].1)) := hcel
  have HN : Hid (∀ e, e ∈ dir → e.1.size ≤ 64) := hn
  have HP : Hid (p.size ≤ maxLen) := hp
  have HLN : Hid (∀ k, k ≤ dir.length → (sortN p.data.toList (dir.take k)).length ≤ k) := fun k hk => by
    rw [sortN_is]
    unfold namesL
    rw [List.length_mergeSort]
    refine Nat.le_trans (List.length_filter_le _ _) ?_
    rw [List.length_map, List.length_take]
    omega
  clear hcel hd hn hp
  go_enter Try.func46, Try.ntmps46
  go_wp2
  go_loopw [5, 6] (fun v i wr => ∃ k : Nat, k ≤ dir.length ∧ i = .int .i64 k ∧ wr.ownsRow w.heap.size 9 1 v (sortN p.data.toList (dir.take k)).length ((sortN p.data.toList (dir.take k)).map encStr) ∧ Below w.heap.size w wr) (fun _ i _ => dir.length - (intOf i).toNat)
  case atStart => exact ⟨0, Nat.zero_le _, rfl, World.ownsRow_nil _ _ _ _, Below.refl _ _⟩
  case round =>
    obtain ⟨k, hk, rfl, hrow, hbel⟩ := hrel
    by_cases hlt : k < dir.length
    · obtain ⟨hgl, hc0⟩ := HC.out k hlt
      have q0 := (hbel.cell (p := ⟨g, k * 2, none⟩) hgl).trans hc0
      have hz := HN.out _ (List.getElem_mem hlt)
      obtain ⟨nk, hnk⟩ : ∃ nk, nk = dir[k].1 := ⟨_, rfl⟩
      have HS : Hid (sortN p.data.toList (dir.take (k + 1)) = if Lib.hasPrefix nk.data.toList p.data.toList = true then insN (sortN p.data.toList (dir.take k)) nk.data.toList else sortN p.data.toList (dir.take k)) := by
        show _ = _
        rw [hnk]
        exact sortN_take _ _ k hlt
      rw [← hnk] at q0 hz
      clear hnk hc0
      obtain ⟨va, vc, rfl⟩ := slice_of_row hrow
      have hxl := HLN.out k hk
      have HK : Hid (k ≤ dir.length) := hk
      generalize sortN p.data.toList (dir.take k) = xs at *
      have hcap := ownsRow_cap hrow
      by_cases hpre : Lib.hasPrefix nk.data.toList p.data.toList = true
      · obtain ⟨hs1, hs2⟩ := pre_iff.1 hpre
        rw [if_pos hpre] at HS
        have hs3 : ¬ nk.size < p.size := by omega
        have hs4 : (p.size : Int) ≤ (nk.size : Int) := by omega
        have hst := StrsAt.of_row hrow
        have HST : Hid (StrsAt wr (.slice va xs.length vc) xs) := hst
        have HR : Hid (wr.ownsRow w.heap.size 9 1 (.slice va xs.length vc) xs.length (xs.map encStr)) := hrow
        have henc : Value.string nk = encStr nk.data.toList := by simp [encStr]
        have HE : Hid (Value.string nk = encStr nk.data.toList) := henc
        clear henc hst hrow hpre
        go_wp2
        go_loopw [8] (fun i wx => ∃ j : Nat, j ≤ xs.length ∧ i = .int .i64 j ∧ wx = wr ∧ Hid (UptoN xs nk.data.toList j)) (fun i _ => xs.length - (intOf i).toNat)
        case atStart => exact ⟨0, Nat.zero_le _, rfl, rfl, fun _ _ h => absurd h (Nat.not_lt_zero _)⟩
        case round =>
          obtain ⟨j, hj, rfl, rfl, hup⟩ := hrel
          have hjc : (j : Int) ≤ (vc : Int) := by omega
          have hjc' : j ≤ vc := by omega
          have hvm : vc ≤ maxLen := hcap.2
          have hvm' : (vc : Int) ≤ 9223372036854775807 := by unfold maxLen at hvm; omega
          have hjx : (j : Int) ≤ (xs.length : Int) := by omega
          have HTL : Hid ((xs.take j).length ≤ 1000 ∧ (xs.drop j).length ≤ 1000) := by show _ ∧ _; rw [List.length_take, List.length_drop]; omega
          have hs := hbel.size
          have HT : Hid (∀ W, Below wr.heap.size wr W → StrsAt W (.slice va j vc) (xs.take j)) := fun W hb => (HST.out.below hb).take j hj
          have HS1 : Hid (∀ w1, (wr.alloc (.cells #[] 9 (0, 0))).grownBy w1 (Value.slice (some ⟨wr.heap.size, 0, none⟩) 0 0).ownBlock → Below wr.heap.size wr w1 ∧ w.heap.size ≤ w1.heap.size) := fun w1 hg => by
            have := ((Below.refl _ wr).alloc (Nat.le_refl _) (.cells #[] 9 (0, 0))).grown hg (by simp) (fun q hq => by simp [Value.ownBlock] at hq; omega)
            exact ⟨this, Nat.le_trans hs this.size⟩
          have HS2 : Hid (∀ w1 w2 v1 (o : Obj) n1 x1, Below wr.heap.size wr w1 → w1.ownsRow wr.heap.size 9 1 v1 n1 x1 → (w1.alloc o).grownBy w2 v1.ownBlock → Below wr.heap.size wr w2 ∧ w.heap.size ≤ w2.heap.size) := fun w1 w2 v1 o n1 x1 h1 hr hg => by
            have := below_grown h1 o hr hg
            exact ⟨this, Nat.le_trans hs this.size⟩
          have HFIN : Hid (∀ w1 w2 w3 v1 v2 v3 (o : Obj), insN xs nk.data.toList = xs.take j ++ nk.data.toList :: xs.drop j → w1.ownsRow wr.heap.size 9 1 v1 (0 + (xs.take j).length) ([] ++ (xs.take j).map encStr) → (wr.alloc (.cells #[] 9 (0, 0))).grownBy w1 (Value.slice (some ⟨wr.heap.size, 0, none⟩) 0 0).ownBlock →
              w2.ownsRow wr.heap.size 9 1 v2 (0 + (xs.take j).length + [nk.data.toList].length) ([] ++ (xs.take j).map encStr ++ [nk.data.toList].map encStr) → (w1.alloc o).grownBy w2 v1.ownBlock →
              w3.ownsRow wr.heap.size 9 1 v3 (0 + (xs.take j).length + [nk.data.toList].length + (xs.drop j).length) ([] ++ (xs.take j).map encStr ++ [nk.data.toList].map encStr ++ (xs.drop j).map encStr) → w2.grownBy w3 v2.ownBlock →
              w3.ownsRow w.heap.size 9 1 v3 (sortN p.data.toList (dir.take (k + 1))).length ((sortN p.data.toList (dir.take (k + 1))).map encStr) ∧ Below w.heap.size w w3) := fun w1 w2 w3 v1 v2 v3 o he hr1 hg1 hr2 hg2 hr3 hg3 => by
            rw [HS.out]
            obtain ⟨i1, i2⟩ := ins_row (w := wr) (wr := wr) hj he (Below.refl _ wr) hr1 hg1 hr2 hg2 hr3 hg3
            exact ⟨row_base i1 hs, below_to hbel i2 hs⟩
          by_cases hjl : j < xs.length
          · obtain ⟨a', c', e, _, hcl⟩ := HST.out
            cases e
            obtain ⟨b, o, rfl, hbl, hcell⟩ := hcl j hjl
            obtain ⟨xb, hx1, hx2⟩ : ∃ xb : ByteArray, encStr xs[j] = .string xb ∧ xb.toList = xs[j] := ⟨⟨xs[j].toArray⟩, rfl, by simp [ByteArray.toList_eq]⟩
            rw [hx1] at hcell
            have hnl : nk.toList = nk.data.toList := ByteArray.toList_eq _
            have HL : Hid (Op.bytesLess xs[j] nk.data.toList = Op.bytesLess xb.toList nk.toList) := by show _ = _; rw [hx2, hnl]
            have HD : Hid (∀ W, Below wr.heap.size wr W → StrsAt W (.slice (some ⟨b, o + j, none⟩) (xs.length - j) (vc - j)) (xs.drop j)) := fun W hb => (HST.out.below hb).drop j hj
            have hjl' : (j : Int) < (xs.length : Int) := by omega
            clear hx1 hx2 hnl hcl HST
            cases hless : Op.bytesLess xb.toList nk.toList
            · have HI : Hid (insN xs nk.data.toList = xs.take j ++ nk.data.toList :: xs.drop j) := hup.out.split hj (fun _ => HL.out.trans hless)
              clear hup
              go_wp2_with (first
            | (at_builtin; refine wpList_append_strs _ rfl _ _ rfl wr.heap.size (.slice (some ⟨wr.heap.size, 0, none⟩) 0 0) 0 [] rfl (row_new wr _ (Nat.le_refl _)) _ (xs.take j) rfl (HT.out _ ((Below.refl _ wr).alloc (Nat.le_refl _) _)) (by have := HTL.out; omega) (by simp) ?_; intro v1 w1 hr1 hg1; have hs1 := HS1.out _ hg1; have hz1 := hs1.1.size)
            | (at_builtin; refine wpList_append_strs _ rfl _ _ rfl wr.heap.size v1 (0 + (xs.take j).length) _ rfl (hr1.alloc _) _ [nk.data.toList] rfl (StrsAt.lone2 (heap_alloc_new w1 _)) (by have := HTL.out; rw [List.length_singleton]; omega) (by rw [heap_size_alloc1]; omega) ?_; intro v2 w2 hr2 hg2; have hb2 := HS2.out _ _ _ _ _ _ hs1.1 hr1 hg2; have hz2 := hb2.1.size)
            | (at_builtin; refine wpList_append_strs _ rfl _ _ rfl wr.heap.size v2 (0 + (xs.take j).length + [nk.data.toList].length) _ rfl hr2 _ (xs.drop j) rfl (HD.out _ hb2.1) (by have := HTL.out; rw [List.length_singleton]; omega) hz2 ?_; intro v3 w3 hr3 hg3))
              all_goals
                go_roundw
                case rel =>
                  obtain ⟨f1, f2⟩ := HFIN.out _ _ _ _ _ _ _ HI.out hr1 hg1 hr2 hg2 hr3 hg3
                  exact ⟨k + 1, by omega, by go_num, f1, f2⟩
                case measure => simp [intOf]; omega
            · go_wp2
              go_roundw
              case rel => exact ⟨j + 1, by omega, by go_num, trivial, fun i hi' hlt' => by
                rcases Nat.lt_succ_iff_lt_or_eq.1 hlt' with h1 | h1
                · exact hup.out i hi' h1
                · subst h1; exact HL.out.trans hless⟩
              case measure => simp [intOf]; omega
          · have HI : Hid (insN xs nk.data.toList = xs.take j ++ nk.data.toList :: xs.drop j) := hup.out.split hj (fun hh => absurd hh hjl)
            have ej : j = xs.length := by omega
            have HD : Hid (∀ W a' c', c' ≤ maxLen → StrsAt W (.slice a' 0 c') (xs.drop j)) := fun W a' c' hc' => by
              rw [List.drop_of_length_le (by omega)]; exact StrsAt.nil hc'
            clear hup hjl HST
            subst ej
            cases va with
            | none =>
              go_wp2_with (first
            | (at_builtin; refine wpList_append_strs _ rfl _ _ rfl wr.heap.size (.slice (some ⟨wr.heap.size, 0, none⟩) 0 0) 0 [] rfl (row_new wr _ (Nat.le_refl _)) _ (xs.take xs.length) rfl (HT.out _ ((Below.refl _ wr).alloc (Nat.le_refl _) _)) (by have := HTL.out; omega) (by simp) ?_; intro v1 w1 hr1 hg1; have hs1 := HS1.out _ hg1; have hz1 := hs1.1.size)
            | (at_builtin; refine wpList_append_strs _ rfl _ _ rfl wr.heap.size v1 (0 + (xs.take xs.length).length) _ rfl (hr1.alloc _) _ [nk.data.toList] rfl (StrsAt.lone2 (heap_alloc_new w1 _)) (by have := HTL.out; rw [List.length_singleton]; omega) (by rw [heap_size_alloc1]; omega) ?_; intro v2 w2 hr2 hg2; have hb2 := HS2.out _ _ _ _ _ _ hs1.1 hr1 hg2; have hz2 := hb2.1.size)
            | (at_builtin; refine wpList_append_strs _ rfl _ _ rfl wr.heap.size v2 (0 + (xs.take xs.length).length + [nk.data.toList].length) _ rfl hr2 _ (xs.drop xs.length) rfl (HD.out _ _ _ (by omega)) (by have := HTL.out; rw [List.length_singleton]; omega) hz2 ?_; intro v3 w3 hr3 hg3))
              all_goals
                go_roundw
                case rel =>
                  obtain ⟨f1, f2⟩ := HFIN.out _ _ _ _ _ _ _ HI.out hr1 hg1 hr2 hg2 hr3 hg3
                  exact ⟨k + 1, by omega, by go_num, f1, f2⟩
                case measure => simp [intOf]; omega
            | some ad =>
              go_wp2_with (first
            | (at_builtin; refine wpList_append_strs _ rfl _ _ rfl wr.heap.size (.slice (some ⟨wr.heap.size, 0, none⟩) 0 0) 0 [] rfl (row_new wr _ (Nat.le_refl _)) _ (xs.take xs.length) rfl (HT.out _ ((Below.refl _ wr).alloc (Nat.le_refl _) _)) (by have := HTL.out; omega) (by simp) ?_; intro v1 w1 hr1 hg1; have hs1 := HS1.out _ hg1; have hz1 := hs1.1.size)
            | (at_builtin; refine wpList_append_strs _ rfl _ _ rfl wr.heap.size v1 (0 + (xs.take xs.length).length) _ rfl (hr1.alloc _) _ [nk.data.toList] rfl (StrsAt.lone2 (heap_alloc_new w1 _)) (by have := HTL.out; rw [List.length_singleton]; omega) (by rw [heap_size_alloc1]; omega) ?_; intro v2 w2 hr2 hg2; have hb2 := HS2.out _ _ _ _ _ _ hs1.1 hr1 hg2; have hz2 := hb2.1.size)
            | (at_builtin; refine wpList_append_strs _ rfl _ _ rfl wr.heap.size v2 (0 + (xs.take xs.length).length + [nk.data.toList].length) _ rfl hr2 _ (xs.drop xs.length) rfl (HD.out _ _ _ (by omega)) (by have := HTL.out; rw [List.length_singleton]; omega) hz2 ?_; intro v3 w3 hr3 hg3))
              all_goals
                go_roundw
                case rel =>
                  obtain ⟨f1, f2⟩ := HFIN.out _ _ _ _ _ _ _ HI.out hr1 hg1 hr2 hg2 hr3 hg3
                  exact ⟨k + 1, by omega, by go_num, f1, f2⟩
                case measure => simp [intOf]; omega
      · rw [if_neg hpre] at HS
        by_cases hs0 : nk.size < p.size
        · clear hpre
          go_wp2
          go_roundw
          case rel => exact ⟨k + 1, by omega, by go_num, by rw [HS.out]; exact hrow, hbel⟩
          case measure => simp [intOf]; omega
        · have hs2 : ((nk.extract 0 p.size).toList == p.toList) = false := by
            cases e : (nk.extract 0 p.size).toList == p.toList
            · rfl
            · exact absurd (pre_iff.2 ⟨by omega, e⟩) hpre
          have hs4 : (p.size : Int) ≤ (nk.size : Int) := by omega
          have hs5 : p.size ≤ nk.size := by omega
          clear hpre
          go_wp2
          go_roundw
          case rel => exact ⟨k + 1, by omega, by go_num, by rw [HS.out]; exact hrow, hbel⟩
          case measure => simp [intOf]; omega
    · have e : k = dir.length := by omega
      subst e
      rw [List.take_length] at hrow
      go_wp2
      go_ret
      exact ⟨_, rfl, hrow, hbel⟩

set_option maxRecDepth 100000 in
set_option maxHeartbeats 1000000 in
theorem refSorted_none (p : ByteArray) (w : World) : Calls Try.prog 46 #[.slice none 0 0, .string p] w fun e w' => e = .returned (.slice none 0 0) ∧ w' = w := by
  go_enter Try.func46, Try.ntmps46
  go_wp2
  go_loop [5, 6] (fun v i => v = .slice none 0 0 ∧ i = .int .i64 0) (fun _ _ => 0)
  case atStart => exact ⟨rfl, rfl⟩
  case round =>
    obtain ⟨rfl, rfl⟩ := hrel
    go_wp2
    go_ret
    exact ⟨rfl, rfl⟩

theorem refSorted_any (dv : Value) (dir : List (ByteArray × Int)) (p : ByteArray) (w : World) (base : Nat) (hd : w.ownsRow base 90 2 dv dir.length (entCells dir)) (hl : dir.length ≤ 1000) (hp : p.size ≤ maxLen) (hn : ∀ e, e ∈ dir → e.1.size ≤ 64) :
    Calls Try.prog 46 #[dv, .string p] w fun e w' => ∃ v, e = .returned v ∧ w'.ownsRow w.heap.size 9 1 v (namesL dir p.data.toList).length ((namesL dir p.data.toList).map encStr) ∧ Below w.heap.size w w' := by
  rw [← sortN_is]
  rcases id hd.2 with ⟨rfl, e0⟩ | ⟨g, cap, cur, rfl, _⟩
  · have e : dir = [] := List.eq_nil_of_length_eq_zero e0
    subst e
    refine (refSorted_none p w).mono ?_
    rintro e w' ⟨rfl, rfl⟩
    exact ⟨_, rfl, World.ownsRow_nil _ _ _ _, Below.refl _ _⟩
  · exact refSorted_some g cap dir p w base hd hl hp hn

section
variable {w : World} {r base : Nat} {a : RA} (h : RefIs w r base a)
include h
set_option maxHeartbeats 1000000 in
theorem refList_any (hl : a.dir.length ≤ 1000) (hn : ∀ e, e ∈ a.dir → e.1.size ≤ 64) (p : ByteArray) (hp : p.size ≤ maxLen) : Calls Try.prog 26 #[.pointer (some ⟨r, 0, none⟩), .string p] w fun e w' => ∃ v, e = .returned v ∧ w'.ownsRow w.heap.size 9 1 v (namesL a.dir p.data.toList).length ((namesL a.dir p.data.toList).map encStr) ∧ Below w.heap.size w w' := by
  obtain ⟨s, hI, rfl, rfl⟩ := h
  obtain ⟨c0, c1, c2, c3, c4, c5, c6, c7, cf⟩ := hI.at_.cells
  have HR : Hid (Calls Try.prog 46 #[s.dv, .string p] w fun e w' => ∃ v, e = .returned v ∧ w'.ownsRow w.heap.size 9 1 v (namesL s.dir p.data.toList).length ((namesL s.dir p.data.toList).map encStr) ∧ Below w.heap.size w w') := refSorted_any s.dv s.dir p w s.base hI.rD hl hp hn
  clear cf hn
  go_enter Try.func26, Try.ntmps26
  go_wp2_with (go_at_call 46; refine HR.out.mono ?_; clear HR; rintro e w1 ⟨v, rfl, hr, hb⟩)
  go_ret
  exact ⟨v, rfl, hr, hb⟩
set_option maxHeartbeats 1000000 in
theorem refDurable_any (hl : a.kept.length ≤ 1000) (hn : ∀ e, e ∈ a.kept → e.1.size ≤ 64) : Calls Try.prog 28 #[.pointer (some ⟨r, 0, none⟩)] w fun e w' => ∃ v, e = .returned v ∧ w'.ownsRow w.heap.size 9 1 v (namesL a.kept []).length ((namesL a.kept []).map encStr) ∧ Below w.heap.size w w' := by
  obtain ⟨s, hI, rfl, rfl⟩ := h
  obtain ⟨c0, c1, c2, c3, c4, c5, c6, c7, cf⟩ := hI.at_.cells
  have HR : Hid (Calls Try.prog 46 #[s.kv, .string ⟨#[]⟩] w fun e w' => ∃ v, e = .returned v ∧ w'.ownsRow w.heap.size 9 1 v (namesL s.kept []).length ((namesL s.kept []).map encStr) ∧ Below w.heap.size w w') := refSorted_any s.kv s.kept ⟨#[]⟩ w s.base hI.rK hl (by unfold maxLen; decide) hn
  clear cf hn
  go_enter Try.func28, Try.ntmps28
  go_wp2_with (go_at_call 46; refine HR.out.mono ?_; clear HR; rintro e w1 ⟨v, rfl, hr, hb⟩)
  go_ret
  exact ⟨v, rfl, hr, hb⟩
end

end Go.Proofs.Ytipakfdebccchaa
