/- Texts that belong together. -/
import Derived.Test.YtipakfdebccchaaMWd
import Derived.Test.YtipakfdebccchaaMW8
/- The document's disk: its block, its directory as a list. -/
namespace Go.Proofs.Ytipakfdebccchaa
open Go.RowKit Go.Maps Go.Sort

def RefAt (w : World) (r : Nat) (cap : Int) (fv dv kv pv qv : Value) (stop cnt : Int) : Prop :=
  w.heap[r]? = some (.cells #[.int .i64 cap, fv, dv, kv, pv, qv, .int .i64 stop, .int .i64 cnt] 41)

section
variable {w : World} {r : Nat} {cap : Int} {fv dv kv pv qv : Value} {stop cnt : Int} (h : RefAt w r cap fv dv kv pv qv stop cnt)
include h
theorem RefAt.cells : w.cell? ⟨r, 0, none⟩ = some (.int .i64 cap) ∧ w.cell? ⟨r, 1, none⟩ = some fv ∧ w.cell? ⟨r, 2, none⟩ = some dv ∧ w.cell? ⟨r, 3, none⟩ = some kv ∧ w.cell? ⟨r, 4, none⟩ = some pv ∧ w.cell? ⟨r, 5, none⟩ = some qv ∧ w.cell? ⟨r, 6, none⟩ = some (.int .i64 stop) ∧ w.cell? ⟨r, 7, none⟩ = some (.int .i64 cnt) ∧ (∀ i, w.frozen? ⟨r, i, none⟩ = false) := by
  unfold RefAt at h
  refine ⟨?_, ?_, ?_, ?_, ?_, ?_, ?_, ?_, fun i => frozen_of_heap h⟩ <;> (rw [cell_of_heap h]; rfl)
theorem RefAt.lt : r < w.heap.size := (Array.getElem?_eq_some_iff.1 h).1
theorem RefAt.set0 (x : Int) : RefAt (w.setCell ⟨r, 0, none⟩ (.int .i64 x)) r x fv dv kv pv qv stop cnt := heap_setCell_same h _
theorem RefAt.set1 (x : Value) : RefAt (w.setCell ⟨r, 1, none⟩ x) r cap x dv kv pv qv stop cnt := heap_setCell_same h _
theorem RefAt.set2 (x : Value) : RefAt (w.setCell ⟨r, 2, none⟩ x) r cap fv x kv pv qv stop cnt := heap_setCell_same h _
theorem RefAt.set3 (x : Value) : RefAt (w.setCell ⟨r, 3, none⟩ x) r cap fv dv x pv qv stop cnt := heap_setCell_same h _
theorem RefAt.set4 (x : Value) : RefAt (w.setCell ⟨r, 4, none⟩ x) r cap fv dv kv x qv stop cnt := heap_setCell_same h _
theorem RefAt.set5 (x : Value) : RefAt (w.setCell ⟨r, 5, none⟩ x) r cap fv dv kv pv x stop cnt := heap_setCell_same h _
theorem RefAt.set6 (x : Int) : RefAt (w.setCell ⟨r, 6, none⟩ (.int .i64 x)) r cap fv dv kv pv qv x cnt := heap_setCell_same h _
theorem RefAt.set7 (x : Int) : RefAt (w.setCell ⟨r, 7, none⟩ (.int .i64 x)) r cap fv dv kv pv qv stop x := heap_setCell_same h _
theorem RefAt.kept {O : Nat → Prop} {w' : World} (k : Kept O w w') (hO : ¬ O r) : RefAt w' r cap fv dv kv pv qv stop cnt := k.heap h hO
theorem RefAt.ne_row {base n size : Nat} {e : TypeId} {v : Value} {xs : List Value} (ho : w.ownsRow base e size v n xs) (he : e ≠ 41) : v.ownBlock ≠ some r := by
  intro hv
  rcases ho.2 with ⟨rfl, _⟩ | ⟨g, cap, cur, rfl, _, hg, _⟩
  · cases hv
  · simp [Value.ownBlock] at hv
    subst hv
    unfold RefAt at h
    rw [h] at hg
    simp at hg
    exact he hg.2.symm
end

/-- A directory, as its cells. -/
def entCells (l : List (ByteArray × Int)) : List Value := l.flatMap fun e => [.string e.1, .int .i64 e.2]
theorem entCells_length (l : List (ByteArray × Int)) : (entCells l).length = l.length * 2 := by
  induction l with
  | nil => rfl
  | cons a r ih => simp [entCells] at *; omega
theorem entCells_at (l : List (ByteArray × Int)) (k : Nat) (hk : k < l.length) : (entCells l)[k * 2]? = some (.string l[k].1) ∧ (entCells l)[k * 2 + 1]? = some (.int .i64 l[k].2) := by
  induction l generalizing k with
  | nil => simp at hk
  | cons c r ih =>
    have e : entCells (c :: r) = [.string c.1, .int .i64 c.2] ++ entCells r := by simp [entCells]
    cases k with
    | zero => simp [e]
    | succ k =>
      have h := ih k (by simpa using hk)
      constructor
      · rw [e, List.getElem?_append_right (by simp; omega), show (k + 1) * 2 - [Value.string c.1, Value.int .i64 c.2].length = k * 2 by simp; omega]; exact h.1
      · rw [e, List.getElem?_append_right (by simp; omega), show (k + 1) * 2 + 1 - [Value.string c.1, Value.int .i64 c.2].length = k * 2 + 1 by simp; omega]; exact h.2
theorem entCells_snoc (l : List (ByteArray × Int)) (s : ByteArray) (i : Int) : entCells (l ++ [(s, i)]) = entCells l ++ [.string s, .int .i64 i] := by simp [entCells]

theorem info99 : (Try.prog.info? 90).map (fun i => (i.zero, i.size, i.bytes)) = some (some (.agg #[.string ByteArray.empty, .int .i64 0]), 2, 24) := by kernel_rfl

/-- Where a name stands in a directory; -1: nowhere. -/
def Stands (dir : List (ByteArray × Int)) (name : ByteArray) (i : Int) : Prop :=
  (∃ k : Nat, ∃ hk : k < dir.length, i = k ∧ (dir[k].1.toList == name.toList) = true ∧ ∀ j (hj : j < k), (dir[j].1.toList == name.toList) = false) ∨ (i = -1 ∧ ∀ j (hj : j < dir.length), (dir[j].1.toList == name.toList) = false)

set_option maxRecDepth 100000 in
set_option maxHeartbeats 1000000 in
/-- Where a name stands. -/
theorem refAt_any (dv : Value) (dir : List (ByteArray × Int)) (name : ByteArray) (w : World) (base : Nat) (hd : w.ownsRow base 90 2 dv dir.length (entCells dir)) (hl : dir.length ≤ 1000000000) :
    Calls Try.prog 47 #[dv, .string name] w fun e w' => (∃ i : Int, e = .returned (.int .i64 i) ∧ Stands dir name i) ∧ w' = w := by
  obtain ⟨da, dc, hdv⟩ := slice_of_row hd
  have hcel : ∀ g, da = some ⟨g, 0, none⟩ → ∀ k (hk : k < dir.length), w.cell? ⟨g, k * 2, none⟩ = some (.string dir[k].1) := fun g hg k hk => by
    have := hd.cells (g := g) (by rw [hdv, hg]; rfl) _ _ (entCells_at dir k hk).1
    rw [Addr.add_lit, Nat.zero_add] at this
    exact this
  have hg : 0 < dir.length → ∃ g, da = some ⟨g, 0, none⟩ := fun h0 => by
    rcases hd.2 with ⟨e, e0⟩ | ⟨g, cap, cur, e, _⟩
    · omega
    · rw [hdv] at e; cases e; exact ⟨g, rfl⟩
  subst hdv
  have HC : Hid (∀ g, da = some ⟨g, 0, none⟩ → ∀ k (hk : k < dir.length), w.cell? ⟨g, k * 2, none⟩ = some (.string dir[k].1)) := hcel
  clear hcel hd
  by_cases h0 : 0 < dir.length
  · obtain ⟨g, rfl⟩ := hg h0
    go_enter Try.func47, Try.ntmps47
    go_wp2
    go_loop [5] (fun i => ∃ k : Nat, k ≤ dir.length ∧ i = .int .i64 k ∧ ∀ j (hj : j < k) (hj' : j < dir.length), (dir[j].1.toList == name.toList) = false) (fun i => dir.length - (intOf i).toNat)
    case atStart => exact ⟨0, Nat.zero_le _, rfl, fun j hj => absurd hj (Nat.not_lt_zero _)⟩
    case round =>
      obtain ⟨k, hk, rfl, hno⟩ := hrel
      have HN : Hid (∀ j (hj : j < k) (hj' : j < dir.length), (dir[j].1.toList == name.toList) = false) := hno
      clear hno
      by_cases hlt : k < dir.length
      · have hc := HC.out g rfl k hlt
        obtain ⟨nk, hnk⟩ : ∃ nk, nk = dir[k].1 := ⟨_, rfl⟩
        have HK : Hid (nk = dir[k].1) := hnk
        rw [← hnk] at hc
        clear hnk
        cases he : nk.toList == name.toList
        · have HE : Hid ((nk.toList == name.toList) = false) := he
          go_wp2
          go_round
          case rel => exact ⟨k + 1, by omega, by go_num, fun j hj hj' => by
            by_cases h : j < k
            · exact HN.out j h hj'
            · have e : j = k := by omega
              subst e
              rw [← HK.out]; exact HE.out⟩
          case measure => simp [intOf]; omega
        · have HE : Hid ((nk.toList == name.toList) = true) := he
          go_wp2
          go_ret
          exact ⟨⟨k, rfl, Or.inl ⟨k, hlt, rfl, by rw [← HK.out]; exact HE.out, fun j hj => HN.out j hj (by omega)⟩⟩, rfl⟩
      · have e : k = dir.length := by omega
        subst e
        go_wp2
        go_ret
        exact ⟨⟨-1, rfl, Or.inr ⟨rfl, fun j hj => HN.out j hj hj⟩⟩, rfl⟩
  · have e : dir.length = 0 := by omega
    have HZ : Hid (dir.length = 0) := e
    obtain ⟨n, hn⟩ : ∃ n, n = dir.length := ⟨_, rfl⟩
    rw [← hn]
    have hn0 : n = 0 := by omega
    subst hn0
    clear h0 hg HC hn e
    go_enter Try.func47, Try.ntmps47
    go_wp2
    go_loop [5] (fun i => i = .int .i64 0) (fun _ => 0)
    case atStart => rfl
    case round =>
      subst hrel
      go_wp2
      go_ret
      exact ⟨⟨-1, rfl, Or.inr ⟨rfl, fun j hj => absurd hj (by have := HZ.out; omega)⟩⟩, rfl⟩

end Go.Proofs.Ytipakfdebccchaa

/- The document's disk: made, begun, stopped; a stopped one refuses. -/
namespace Go.Proofs.Ytipakfdebccchaa
open Go.RowKit Go.Maps Go.Sort

set_option maxRecDepth 100000 in
theorem refSetCapacity {w : World} {r : Nat} {cap : Int} {fv dv kv pv qv : Value} {stop cnt : Int} (h : RefAt w r cap fv dv kv pv qv stop cnt) (n : Int) :
    Calls Try.prog 16 #[.pointer (some ⟨r, 0, none⟩), .int .i64 n] w fun e w' => e = .returned (.tuple #[]) ∧ RefAt w' r (max n 0) fv dv kv pv qv stop cnt ∧ Kept (fun k => k = r) w w' := by
  obtain ⟨c0, c1, c2, c3, c4, c5, c6, c7, cf⟩ := h.cells
  by_cases hn : n < 0
  · have e : max n 0 = 0 := by omega
    rw [e]
    go_enter Try.func16, Try.ntmps16
    go_wp2
    go_end0
    exact ⟨rfl, h.set0 _, (Kept.refl (fun k => k = r) w).setCell (p := ⟨r, 0, none⟩) (fun _ => rfl) _⟩
  · have e : max n 0 = n := by omega
    rw [e]
    go_enter Try.func16, Try.ntmps16
    go_wp2
    go_end0
    exact ⟨rfl, h.set0 _, (Kept.refl (fun k => k = r) w).setCell (p := ⟨r, 0, none⟩) (fun _ => rfl) _⟩

set_option maxRecDepth 100000 in
set_option maxHeartbeats 1000000 in
theorem refNew (n : Int) (w : World) :
    Calls Try.prog 6 #[.int .i64 n] w fun e w' => e = .returned (.pointer (some ⟨w.heap.size, 0, none⟩)) ∧ RefAt w' w.heap.size (max n 0) (.slice none 0 0) (.slice none 0 0) (.slice none 0 0) (.slice none 0 0) (.slice none 0 0) (-1) 0 ∧ Below w.heap.size w w' := by
  have hR : RefAt (w.alloc (.cells #[.int .i64 0, .slice none 0 0, .slice none 0 0, .slice none 0 0, .slice none 0 0, .slice none 0 0, .int .i64 (-1), .int .i64 0] 41)) w.heap.size 0 (.slice none 0 0) (.slice none 0 0) (.slice none 0 0) (.slice none 0 0) (.slice none 0 0) (-1) 0 := heap_alloc_new w _
  go_enter Try.func6, Try.ntmps6
  go_wp2_with (go_at_call 16; refine (refSetCapacity hR n).mono ?_; rintro e w1 ⟨rfl, hI, hk⟩)
  go_ret
  exact ⟨rfl, hI, (((Kept.refl (fun k => k = w.heap.size) w).alloc _).trans hk (fun _ _ e => e)).toBelow (Nat.le_refl _) (fun i e => Nat.le_of_eq e.symm)⟩

section
variable {w : World} {r : Nat} {cap : Int} {fv dv kv pv : Value} {cnt : Int}

set_option maxRecDepth 100000 in
set_option maxHeartbeats 1000000 in
theorem refBegin_dead (h : RefAt w r cap fv dv kv pv (.slice none 0 0) 0 cnt) (h0 : 0 ≤ cnt) (h1 : cnt < 1000000000) :
    Calls Try.prog 68 #[.pointer (some ⟨r, 0, none⟩)] w fun e w' => e = .returned (.tuple #[.int .i64 7, .int .i64 0]) ∧ RefAt w' r cap fv dv kv pv (.slice none 0 0) 0 (cnt + 1) ∧ Kept (fun k => k = r) w w' := by
  obtain ⟨c0, c1, c2, c3, c4, c5, c6, c7, cf⟩ := h.cells
  go_enter Try.func68, Try.ntmps68
  go_wp2
  go_loop [4, 5, 6] (fun a b i => a = .int .i64 0 ∧ b = .slice none 0 0 ∧ i = .int .i64 0) (fun _ _ _ => 0)
  case atStart => exact ⟨rfl, rfl, rfl⟩
  case round =>
    obtain ⟨rfl, rfl, rfl⟩ := hrel
    go_wp2
    go_ret2
    refine ⟨rfl, (h.set7 _).set5 _, ((Kept.refl (fun k => k = r) w).setCell (p := ⟨r, 7, none⟩) (fun _ => rfl) _).setCell (p := ⟨r, 5, none⟩) (fun _ => rfl) _⟩

set_option maxRecDepth 100000 in
set_option maxHeartbeats 1000000 in
theorem refBegin_on (h : RefAt w r cap fv dv kv pv (.slice none 0 0) (-1) cnt) (h0 : 0 ≤ cnt) (h1 : cnt < 1000000000) :
    Calls Try.prog 68 #[.pointer (some ⟨r, 0, none⟩)] w fun e w' => e = .returned (.tuple #[.int .i64 0, .int .i64 0]) ∧ RefAt w' r cap fv dv kv pv (.slice none 0 0) (-1) (cnt + 1) ∧ Kept (fun k => k = r) w w' := by
  obtain ⟨c0, c1, c2, c3, c4, c5, c6, c7, cf⟩ := h.cells
  go_enter Try.func68, Try.ntmps68
  go_wp2
  go_loop [4, 5, 6] (fun a b i => a = .int .i64 0 ∧ b = .slice none 0 0 ∧ i = .int .i64 0) (fun _ _ _ => 0)
  case atStart => exact ⟨rfl, rfl, rfl⟩
  case round =>
    obtain ⟨rfl, rfl, rfl⟩ := hrel
    go_wp2
    go_ret2
    refine ⟨rfl, (h.set7 _).set5 _, ((Kept.refl (fun k => k = r) w).setCell (p := ⟨r, 7, none⟩) (fun _ => rfl) _).setCell (p := ⟨r, 5, none⟩) (fun _ => rfl) _⟩

set_option maxRecDepth 100000 in
theorem refStop {qv : Value} {stop : Int} (h : RefAt w r cap fv dv kv pv qv stop cnt) :
    Calls Try.prog 21 #[.pointer (some ⟨r, 0, none⟩), .int .i64 0] w fun e w' => e = .returned (.tuple #[]) ∧ RefAt w' r cap fv dv kv pv qv 0 cnt ∧ Kept (fun k => k = r) w w' := by
  obtain ⟨c0, c1, c2, c3, c4, c5, c6, c7, cf⟩ := h.cells
  go_enter Try.func21, Try.ntmps21
  go_wp2
  go_end0
  exact ⟨rfl, h.set6 _, (Kept.refl (fun k => k = r) w).setCell (p := ⟨r, 6, none⟩) (fun _ => rfl) _⟩

variable (h : RefAt w r cap fv dv kv pv (.slice none 0 0) 0 cnt) (h0 : 0 ≤ cnt) (h1 : cnt < 1000000000)
include h h0 h1

set_option maxHeartbeats 1000000 in
theorem refCreate_dead (name : ByteArray) :
    Calls Try.prog 49 #[.pointer (some ⟨r, 0, none⟩), .string name] w fun e w' => e = .returned (.int .i64 7) ∧ RefAt w' r cap fv dv kv pv (.slice none 0 0) 0 (cnt + 1) ∧ Kept (fun k => k = r) w w' := by
  go_enter Try.func49, Try.ntmps49
  go_wp2_with (go_at_call 68; refine (refBegin_dead h h0 h1).mono ?_; rintro e w1 ⟨rfl, hI, hk⟩)
  go_ret
  exact ⟨rfl, hI, hk⟩

set_option maxHeartbeats 1000000 in
theorem refAppend_dead (name : ByteArray) (bv : Value) :
    Calls Try.prog 51 #[.pointer (some ⟨r, 0, none⟩), .string name, bv] w fun e w' => e = .returned (.int .i64 7) ∧ RefAt w' r cap fv dv kv pv (.slice none 0 0) 0 (cnt + 1) ∧ Kept (fun k => k = r) w w' := by
  go_enter Try.func51, Try.ntmps51
  go_wp2_with (go_at_call 68; refine (refBegin_dead h h0 h1).mono ?_; rintro e w1 ⟨rfl, hI, hk⟩)
  go_ret
  exact ⟨rfl, hI, hk⟩

set_option maxHeartbeats 1000000 in
theorem refRemove_dead (name : ByteArray) :
    Calls Try.prog 57 #[.pointer (some ⟨r, 0, none⟩), .string name] w fun e w' => e = .returned (.int .i64 7) ∧ RefAt w' r cap fv dv kv pv (.slice none 0 0) 0 (cnt + 1) ∧ Kept (fun k => k = r) w w' := by
  go_enter Try.func57, Try.ntmps57
  go_wp2_with (go_at_call 68; refine (refBegin_dead h h0 h1).mono ?_; rintro e w1 ⟨rfl, hI, hk⟩)
  go_ret
  exact ⟨rfl, hI, hk⟩

set_option maxHeartbeats 1000000 in
theorem refSyncDir_dead :
    Calls Try.prog 58 #[.pointer (some ⟨r, 0, none⟩)] w fun e w' => e = .returned (.int .i64 7) ∧ RefAt w' r cap fv dv kv pv (.slice none 0 0) 0 (cnt + 1) ∧ Kept (fun k => k = r) w w' := by
  go_enter Try.func58, Try.ntmps58
  go_wp2_with (go_at_call 68; refine (refBegin_dead h h0 h1).mono ?_; rintro e w1 ⟨rfl, hI, hk⟩)
  go_ret
  exact ⟨rfl, hI, hk⟩

variable {dir : List (ByteArray × Int)} {base : Nat} (hd : w.ownsRow base 90 2 dv dir.length (entCells dir)) (hl : dir.length ≤ 1000000000)
include hd hl

set_option maxHeartbeats 1000000 in
theorem refSync_dead (name : ByteArray) :
    Calls Try.prog 53 #[.pointer (some ⟨r, 0, none⟩), .string name] w fun e w' => e = .returned (.int .i64 7) ∧ RefAt w' r cap fv dv kv pv (.slice none 0 0) 0 (cnt + 1) ∧ Kept (fun k => k = r) w w' := by
  have hdr : ∀ k, dv.ownBlock = some k → ¬ k = r := fun k hk e => h.ne_row hd (by decide) (e ▸ hk)
  have HD : Hid (∀ k, dv.ownBlock = some k → ¬ k = r) := hdr
  clear hdr
  go_enter Try.func53, Try.ntmps53
  go_wp2_with (first | (go_at_call 68; refine (refBegin_dead h h0 h1).mono ?_; rintro e w1 ⟨rfl, hI, hk⟩; obtain ⟨c0, c1, c2, c3, c4, c5, c6, c7, cf⟩ := hI.cells) | (go_at_call 47; refine (refAt_any dv dir name _ base (hk.ownsRow hd HD.out) hl).mono ?_; rintro e w2 ⟨⟨i, rfl, hi⟩, rfl⟩))
  go_ret
  exact ⟨rfl, hI, hk⟩

set_option maxHeartbeats 1000000 in
theorem refRename_dead (name dest : ByteArray) :
    Calls Try.prog 55 #[.pointer (some ⟨r, 0, none⟩), .string name, .string dest] w fun e w' => e = .returned (.int .i64 7) ∧ RefAt w' r cap fv dv kv pv (.slice none 0 0) 0 (cnt + 1) ∧ Kept (fun k => k = r) w w' := by
  have hdr : ∀ k, dv.ownBlock = some k → ¬ k = r := fun k hk e => h.ne_row hd (by decide) (e ▸ hk)
  have HD : Hid (∀ k, dv.ownBlock = some k → ¬ k = r) := hdr
  clear hdr
  go_enter Try.func55, Try.ntmps55
  go_wp2_with (first | (go_at_call 68; refine (refBegin_dead h h0 h1).mono ?_; rintro e w1 ⟨rfl, hI, hk⟩; obtain ⟨c0, c1, c2, c3, c4, c5, c6, c7, cf⟩ := hI.cells) | (go_at_call 47; refine (refAt_any dv dir name _ base (hk.ownsRow hd HD.out) hl).mono ?_; rintro e w2 ⟨⟨i, rfl, hi⟩, rfl⟩))
  go_ret
  exact ⟨rfl, hI, hk⟩
end

end Go.Proofs.Ytipakfdebccchaa
