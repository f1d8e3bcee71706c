/- The document's directory: a name is taken out, or set. -/
import Derived.Test.YtipakfdebccchaaMR1
import Derived.Deep.AppendLies
namespace Go.Proofs.Ytipakfdebccchaa
open Go.RowKit Go.Maps Go.Sort

/-- A directory without a name. -/
def unsetL (dir : List (ByteArray × Int)) (name : ByteArray) : List (ByteArray × Int) := dir.filter fun e => !(e.1.toList == name.toList)
theorem unsetL_take (dir : List (ByteArray × Int)) (name : ByteArray) (k : Nat) (hk : k < dir.length) : unsetL (dir.take (k + 1)) name = unsetL (dir.take k) name ++ (if (dir[k].1.toList == name.toList) = true then [] else [dir[k]]) := by
  unfold unsetL
  rw [List.take_succ_eq_append_getElem hk, List.filter_append]
  congr 1
  cases h : dir[k].1.toList == name.toList <;> simp [h]
theorem unsetL_length (dir : List (ByteArray × Int)) (name : ByteArray) : (unsetL dir name).length ≤ dir.length := List.length_filter_le _ _

theorem below_grown {w wr w1 : World} {v : Value} {n size : Nat} {e : TypeId} {xs : List Value} (hb : Below w.heap.size w wr) (o : Obj) (hr : wr.ownsRow w.heap.size e size v n xs) (hg : (wr.alloc o).grownBy w1 v.ownBlock) : Below w.heap.size w w1 :=
  (hb.alloc hb.size o).grown hg (by have := hb.size; simp; omega) (fun j hj => (hr.lt j hj).1)

set_option maxRecDepth 100000 in
set_option maxHeartbeats 2000000 in
theorem refUnset_any (dv : Value) (dir : List (ByteArray × Int)) (name : ByteArray) (w : World) (base : Nat) (hd : w.ownsRow base 90 2 dv dir.length (entCells dir)) (hl : dir.length ≤ 1000000000) :
    Calls Try.prog 45 #[dv, .string name] w fun e w' => ∃ v, e = .returned v ∧ w'.ownsRow w.heap.size 90 2 v (unsetL dir name).length (entCells (unsetL dir name)) ∧ Below w.heap.size w w' := by
  obtain ⟨da, dc, hdv⟩ := slice_of_row hd
  have hcel : ∀ g, da = some ⟨g, 0, none⟩ → ∀ k (hk : k < dir.length), g < w.heap.size ∧ w.cell? ⟨g, k * 2, none⟩ = some (.string dir[k].1) ∧ w.cell? ⟨g, k * 2 + 1, none⟩ = some (.int .i64 dir[k].2) := fun g hg k hk => by
    have h1 := hd.cells (g := g) (by rw [hdv, hg]; rfl) _ _ (entCells_at dir k hk).1
    have h2 := hd.cells (g := g) (by rw [hdv, hg]; rfl) _ _ (entCells_at dir k hk).2
    rw [Addr.add_lit, Nat.zero_add] at h1 h2
    exact ⟨(hd.lt g (by rw [hdv, hg]; rfl)).2, h1, h2⟩
  have hg : 0 < dir.length → ∃ g, da = some ⟨g, 0, none⟩ := fun h0 => by
    rcases hd.2 with ⟨e, e0⟩ | ⟨g, cap, cur, e, _⟩
    · omega
    · rw [hdv] at e; cases e; exact ⟨g, rfl⟩
  subst hdv
  have HC : Hid (∀ g, da = some ⟨g, 0, none⟩ → ∀ k (hk : k < dir.length), g < w.heap.size ∧ w.cell? ⟨g, k * 2, none⟩ = some (.string dir[k].1) ∧ w.cell? ⟨g, k * 2 + 1, none⟩ = some (.int .i64 dir[k].2)) := hcel
  clear hcel hd
  by_cases h0 : 0 < dir.length
  · obtain ⟨g, rfl⟩ := hg h0
    go_enter Try.func45, Try.ntmps45
    go_wp2
    go_loopw [5, 6] (fun v i wr => ∃ k : Nat, k ≤ dir.length ∧ i = .int .i64 k ∧ wr.ownsRow w.heap.size 90 2 v (unsetL (dir.take k) name).length (entCells (unsetL (dir.take k) name)) ∧ Below w.heap.size w wr) (fun _ i _ => dir.length - (intOf i).toNat)
    case atStart => exact ⟨0, Nat.zero_le _, rfl, World.ownsRow_nil _ _ _ _, Below.refl _ _⟩
    case round =>
      obtain ⟨k, hk, rfl, hrow, hbel⟩ := hrel
      by_cases hlt : k < dir.length
      · obtain ⟨hgl, hc0, hc1⟩ := HC.out g rfl k hlt
        have q0 := (hbel.cell (p := ⟨g, k * 2, none⟩) hgl).trans hc0
        have q1 := (hbel.cell (p := ⟨g, k * 2 + 1, none⟩) hgl).trans hc1
        obtain ⟨nk, hnk⟩ : ∃ nk, nk = dir[k].1 := ⟨_, rfl⟩
        obtain ⟨fk, hfk⟩ : ∃ fk, fk = dir[k].2 := ⟨_, rfl⟩
        have HK : Hid (dir[k] = (nk, fk)) := by show dir[k] = _; rw [hnk, hfk]
        rw [← hnk] at q0
        rw [← hfk] at q1
        clear hnk hfk hc0 hc1
        have hT : Hid (unsetL (dir.take (k + 1)) name = unsetL (dir.take k) name ++ (if (nk.toList == name.toList) = true then [] else [(nk, fk)])) := by
          show _ = _
          have := unsetL_take dir name k hlt
          rw [HK.out] at this
          exact this
        have hul : (unsetL (dir.take k) name).length ≤ k := Nat.le_trans (unsetL_length _ _) (by simp; omega)
        cases he : nk.toList == name.toList
        · rw [he] at hT
          have HE : Hid ((nk.toList == name.toList) = false) := he
          generalize unsetL (dir.take k) name = ul at *
          obtain ⟨i0, hi0, hz0, hz1, hz2⟩ := info_parts info99
          have hsz := hbel.size
          go_wp2_with (at_builtin; refine wpList_append_own_at _ rfl _ _ 37 rfl w.heap.size 90 i0 _ 2 24 Try.underlying37 hi0 hz0 hz1 hz2 rfl (by decide) _ ul.length (entCells ul) rfl (hrow.alloc _) ⟨wr.heap.size, 0, none⟩ 1 1 [.string nk, .int .i64 fk] rfl rfl (World.news_of_block (cs := #[.string nk, .int .i64 fk]) (t := 90) (fr := (0, 0)) (heap_alloc_new wr _)) (by simp [Value.oneCell']) (by unfold maxLen; omega) (by omega) (by simp; omega) ?_; intro v' w1 hown1 hgrow hnil hloc)
          go_round
          case rel =>
            refine ⟨k + 1, by omega, by go_num, ?_, below_grown hbel _ hrow hgrow⟩
            rw [hT.out]
            simp only [Bool.false_eq_true, if_false, List.length_append, List.length_singleton, entCells_snoc]
            exact hown1
          case measure => simp [intOf]; omega
        · rw [he] at hT
          have HE : Hid ((nk.toList == name.toList) = true) := he
          go_wp2
          go_round
          case rel =>
            refine ⟨k + 1, by omega, by go_num, ?_, hbel⟩
            rw [hT.out]
            simp only [if_true, List.append_nil]
            exact hrow
          case measure => simp [intOf]; omega
      · have e : k = dir.length := by omega
        subst e
        rw [List.take_length] at hrow
        go_wp2
        go_ret
        exact ⟨_, rfl, hrow, hbel⟩
  · have e : dir = [] := List.eq_nil_of_length_eq_zero (by omega)
    subst e
    clear h0 hg HC
    go_enter Try.func45, Try.ntmps45
    go_wp2
    go_loop [5, 6] (fun v i => v = .slice none 0 0 ∧ i = .int .i64 0) (fun _ _ => 0)
    case atStart => exact ⟨rfl, rfl⟩
    case round =>
      obtain ⟨rfl, rfl⟩ := hrel
      go_wp2
      go_ret
      exact ⟨_, rfl, World.ownsRow_nil _ _ _ _, Below.refl _ _⟩

/-- A directory in which a name names a file. -/
def setL (dir : List (ByteArray × Int)) (name : ByteArray) (f : Int) : List (ByteArray × Int) := unsetL dir name ++ [(name, f)]

set_option maxRecDepth 100000 in
set_option maxHeartbeats 1000000 in
theorem refSet_any (dv : Value) (dir : List (ByteArray × Int)) (name : ByteArray) (f : Int) (w : World) (base : Nat) (hd : w.ownsRow base 90 2 dv dir.length (entCells dir)) (hl : dir.length ≤ 1000000000) :
    Calls Try.prog 44 #[dv, .string name, .int .i64 f] w fun e w' => ∃ v, e = .returned v ∧ w'.ownsRow w.heap.size 90 2 v (setL dir name f).length (entCells (setL dir name f)) ∧ Below w.heap.size w w' := by
  obtain ⟨i0, hi0, hz0, hz1, hz2⟩ := info_parts info99
  have hul := unsetL_length dir name
  obtain ⟨ul, hu⟩ : ∃ ul, ul = unsetL dir name := ⟨_, rfl⟩
  have HU : Hid (ul = unsetL dir name) := hu
  have hc := refUnset_any dv dir name w base hd hl
  rw [← hu] at hul hc
  clear hu hd
  go_enter Try.func44, Try.ntmps44
  go_wp2_with (first | (go_at_call 45; refine hc.mono ?_; rintro e wr ⟨v, rfl, hrow, hbel⟩; have hsz := hbel.size) | (at_builtin; refine wpList_append_own_at _ rfl _ _ 37 rfl w.heap.size 90 i0 _ 2 24 Try.underlying37 hi0 hz0 hz1 hz2 rfl (by decide) _ ul.length (entCells ul) rfl (hrow.alloc _) ⟨wr.heap.size, 0, none⟩ 1 1 [.string name, .int .i64 f] rfl rfl (World.news_of_block (cs := #[.string name, .int .i64 f]) (t := 90) (fr := (0, 0)) (heap_alloc_new wr _)) (by simp [Value.oneCell']) (by unfold maxLen; omega) (by omega) (by simp; omega) ?_; intro v' w1 hown1 hgrow hnil hloc))
  go_ret
  refine ⟨_, rfl, ?_, below_grown hbel _ hrow hgrow⟩
  unfold setL
  rw [← HU.out]
  simp only [List.length_append, List.length_singleton, entCells_snoc]
  exact hown1

end Go.Proofs.Ytipakfdebccchaa
