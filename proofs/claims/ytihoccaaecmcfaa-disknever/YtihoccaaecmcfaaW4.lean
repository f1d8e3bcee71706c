/- A name is looked for; a change is done to a directory. -/
import Derived.Test.YtihoccaaecmcfaaW3
import Derived.Test.YtihoccaaecmcfaaShelf
namespace Go.Proofs.Ytihoccaaecmcfaa
open Go.RowKit Go.Maps
open Go.WideMaps Go.WideElems

/-- How a directory's element reads: the file's block, or nil. -/
def fileElem : Value → Option (DataW Unit × List MemPlace)
  | .pointer (some ⟨b, 0, none⟩) => some (.lit (.int .i64 b), [])
  | .pointer none => some (.nil, [])
  | _ => none

theorem fileElem_nil : fileElem (.pointer none) = some (.nil, []) := rfl
theorem fileElem_ptr (b : Nat) : fileElem (.pointer (some ⟨b, 0, none⟩)) = some (.lit (.int .i64 b), []) := rfl
theorem fileElem_inv_nil {v : Value} {ps : List MemPlace} (h : fileElem v = some (.nil, ps)) : v = .pointer none := by
  unfold fileElem at h
  split at h
  · simp at h
  · rfl
  · cases h
theorem fileElem_inv_ptr {v : Value} {b : Nat} {ps : List MemPlace} (h : fileElem v = some (.lit (.int .i64 b), ps)) : v = .pointer (some ⟨b, 0, none⟩) := by
  unfold fileElem at h
  split at h
  · rename_i b'
    simp at h
    obtain ⟨h, _⟩ := h
    have : b' = b := by omega
    rw [this]
  · simp at h
  · cases h

theorem key9 (s : ByteArray) (hs : s.size ≤ maxLen) : keyOf Try.prog 9 (.string s) = some (.string s.data.toList) := keyOf_string_mk Try.underlying9 hs

theorem ret_clone (s : ByteArray) (w : World) (hlim : s.size ≤ 281474976710656) :
    Calls Try.prog 70 #[.string s] w fun e w' => e = .returned (.string s) ∧ Below w.heap.size w w' := by
  go_enter Try.func70, Try.ntmps70
  go_wp2_with (go_at_call 76; refine (Try.stringslite_Clone _ _ hlim).mono ?_; rintro e w' ⟨rfl, hb⟩)
  go_ret
  exact ⟨rfl, hb⟩

/-- What a look-up in a directory gives, as the walk wants it. -/
theorem dirLook {w : World} {b n : Nat} {D : DataW Unit} (h : w.ownsMap Try.prog 9 fileElem b n D) {s : ByteArray} (hs : s.size ≤ maxLen) :
    ∃ v ps, (Instr.lookup 65 (.map (some b)) (.string s) false).run Try.prog w = .ok v w ∧ fileElem v = some (D.atKey (.string s.data.toList) .nil, ps) :=
  h.lookup law9 Try.underlying65 (Try.zeroValue76 _) fileElem_nil (key9 s hs)

section
variable (d : Nat) (cap used ops : Int) (nb db : Nat) (pv : Value) (fb : Nat) (stop : Int) (n : Nat) (N : DataW Unit) (s : ByteArray) (w : World)

set_option maxHeartbeats 400000 in
theorem find_bad (hs : s.size ≤ maxLen) (hr : rn s = false) :
    Calls Try.prog 45 #[.pointer (some ⟨d, 0, none⟩), .string s] w fun e w' => e = .returned (.tuple #[.pointer none, .int .i64 2]) ∧ w' = w := by
  go_enter Try.func45, Try.ntmps45
  go_wp2_with (go_at_call 69; refine (rightName_any _ _ hs).mono ?_; rintro e w' ⟨rfl, rfl⟩)
  go_ret2
  exact ⟨rfl, rfl⟩

set_option maxHeartbeats 400000 in
theorem find_none (hs : s.size ≤ maxLen) (hr : rn s = true) (hd : DiskAt w d cap used ops nb db pv fb stop) (hN : w.ownsMap Try.prog 9 fileElem nb n N) (hat : N.atKey (.string s.data.toList) .nil = .nil) :
    Calls Try.prog 45 #[.pointer (some ⟨d, 0, none⟩), .string s] w fun e w' => e = .returned (.tuple #[.pointer none, .int .i64 3]) ∧ w' = w := by
  obtain ⟨v, ps, hlook, hv⟩ := dirLook hN hs
  rw [hat] at hv
  obtain rfl := fileElem_inv_nil hv
  obtain ⟨c0, c1, c2, c3, c4, c5, c6, c7, cf⟩ := hd.cells
  clear hv hat
  go_enter Try.func45, Try.ntmps45
  go_wp2_with (go_at_call 69; refine (rightName_any _ _ hs).mono ?_; rintro e w' ⟨rfl, rfl⟩)
  go_ret2
  exact ⟨rfl, rfl⟩

set_option maxHeartbeats 400000 in
theorem find_some (f : Nat) (hs : s.size ≤ maxLen) (hr : rn s = true) (hd : DiskAt w d cap used ops nb db pv fb stop) (hN : w.ownsMap Try.prog 9 fileElem nb n N) (hat : N.atKey (.string s.data.toList) .nil = .lit (.int .i64 f)) :
    Calls Try.prog 45 #[.pointer (some ⟨d, 0, none⟩), .string s] w fun e w' => e = .returned (.tuple #[.pointer (some ⟨f, 0, none⟩), .int .i64 0]) ∧ w' = w := by
  obtain ⟨v, ps, hlook, hv⟩ := dirLook hN hs
  rw [hat] at hv
  obtain rfl := fileElem_inv_ptr hv
  obtain ⟨c0, c1, c2, c3, c4, c5, c6, c7, cf⟩ := hd.cells
  clear hv hat
  go_enter Try.func45, Try.ntmps45
  go_wp2_with (go_at_call 69; refine (rightName_any _ _ hs).mono ?_; rintro e w' ⟨rfl, rfl⟩)
  go_ret2
  exact ⟨rfl, rfl⟩
end

/-- What a change does to a directory. -/
def doD (D : DataW Unit) (old name : ByteArray) (f : DataW Unit) : DataW Unit :=
  let D1 := if old.toList.isEmpty = true then D else D.del (.string old.data.toList)
  if name.toList.isEmpty = true then D1 else D1.put (.string name.data.toList) f

theorem turned3 {w w1 : World} {b : Nat} {x y z : Value} {t : TypeId} (h : (w.alloc (.cells #[x, y, z] t)).mapTurned w1 b) (hb : b < w.heap.size) :
    w1.cell? ⟨w.heap.size, 0, none⟩ = some x ∧ w1.cell? ⟨w.heap.size, 1, none⟩ = some y ∧ w1.cell? ⟨w.heap.size, 2, none⟩ = some z := by
  have h1 : w1.heap[w.heap.size]? = some (.cells #[x, y, z] t) := (h.grown.block w.heap.size (by simp) (fun e => by cases e; omega)).trans (heap_alloc_new w _)
  refine ⟨?_, ?_, ?_⟩ <;> (rw [cell_of_heap h1]; rfl)

set_option maxRecDepth 100000 in
set_option maxHeartbeats 1000000 in
theorem do_any (b n : Nat) (D : DataW Unit) (old name : ByteArray) (p : Option Addr) (fd : DataW Unit) (w : World) (hown : w.ownsMap Try.prog 9 fileElem b n D) (hn : n < 1000000000)
    (ho : old.size ≤ maxLen) (hm : name.size ≤ maxLen) (hp : fileElem (.pointer p) = some (fd, [])) :
    Calls Try.prog 71 #[.map (some b), .agg #[.string old, .string name, .pointer p]] w fun e w' => e = .returned (.tuple #[]) ∧ w'.ownsMap Try.prog 9 fileElem b (n + 1) (doD D old name fd) ∧ Kept (fun k => k = b) w w' := by
  have hlt := hown.lt
  have HN : Hid (n < maxLen) := by show n < maxLen; unfold maxLen; omega
  have HP : Hid (fileElem (.pointer p) = some (fd, [])) := hp
  clear hp
  cases h1 : old.toList.isEmpty <;> cases h2 : name.toList.isEmpty
  · have HD : Hid (doD D old name fd = (D.del (.string old.data.toList)).put (.string name.data.toList) fd) := by simp [doD, h1, h2, Hid]
    go_enter Try.func71, Try.ntmps71
    go_wp2_with (first | (at_delete; refine wpList_delete_own _ rfl _ _ 65 9 rfl 76 law9 Try.underlying65 _ b n D rfl (hown.alloc _) _ _ rfl (key9 _ ho) ?_; intro w1 hown1 hturn1; obtain ⟨t0, t1, t2⟩ := turned3 hturn1 hlt) | (at_mapUpdate; refine wpList_mapUpdate_in _ rfl _ _ _ 65 rfl 9 76 law9 Try.underlying65 _ b n _ rfl hown1 HN.out _ _ _ rfl rfl (key9 _ hm) _ _ HP.out ?_; intro w2 hown2 hturn2))
    go_end0
    exact ⟨rfl, by rw [HD.out]; exact hown2, (((Kept.refl (fun k => k = b) w).alloc _).turned hturn1 (fun _ => rfl)).turned hturn2 (fun _ => rfl)⟩
  · have HD : Hid (doD D old name fd = D.del (.string old.data.toList)) := by simp [doD, h1, h2, Hid]
    go_enter Try.func71, Try.ntmps71
    go_wp2_with (first | (at_delete; refine wpList_delete_own _ rfl _ _ 65 9 rfl 76 law9 Try.underlying65 _ b n D rfl (hown.alloc _) _ _ rfl (key9 _ ho) ?_; intro w1 hown1 hturn1; obtain ⟨t0, t1, t2⟩ := turned3 hturn1 hlt))
    go_end0
    exact ⟨rfl, by rw [HD.out]; exact hown1.mono (Nat.le_succ _), ((Kept.refl (fun k => k = b) w).alloc _).turned hturn1 (fun _ => rfl)⟩
  · have HD : Hid (doD D old name fd = D.put (.string name.data.toList) fd) := by simp [doD, h1, h2, Hid]
    go_enter Try.func71, Try.ntmps71
    go_wp2_with (first | (at_mapUpdate; refine wpList_mapUpdate_in _ rfl _ _ _ 65 rfl 9 76 law9 Try.underlying65 _ b n _ rfl (hown.alloc _) HN.out _ _ _ rfl rfl (key9 _ hm) _ _ HP.out ?_; intro w2 hown2 hturn2))
    go_end0
    exact ⟨rfl, by rw [HD.out]; exact hown2, ((Kept.refl (fun k => k = b) w).alloc _).turned hturn2 (fun _ => rfl)⟩
  · have HD : Hid (doD D old name fd = D) := by simp [doD, h1, h2, Hid]
    go_enter Try.func71, Try.ntmps71
    go_wp2
    go_end0
    exact ⟨rfl, by rw [HD.out]; exact (hown.alloc _).mono (Nat.le_succ _), (Kept.refl (fun k => k = b) w).alloc _⟩

end Go.Proofs.Ytihoccaaecmcfaa
