/- Texts that belong together. -/
import Derived.Test.YtipakfdebccchaaMW3
import Derived.Deep.RegionLaw
/- A name is looked for; a change is done to a directory. -/
namespace Go.Proofs.Ytipakfdebccchaa
open Go.RowKit Go.Maps
open Go.WideMaps Go.WideElems

/-- How a directory's element reads: the file's block, or nil. -/
def fileElem : Value → Option (DataW Unit × List MemPlace)
  | .pointer (some ⟨b, 0, none⟩) => some (.lit (.int .i64 b), [])
  | .pointer none => some (.nil, [])
  | _ => none

theorem fileElem_nil : fileElem (.pointer none) = some (.nil, []) := rfl
theorem fileElem_ptr (b : Nat) : fileElem (.pointer (some ⟨b, 0, none⟩)) = some (.lit (.int .i64 b), []) := rfl
theorem fileElem_inv_nil {v : Value} {ps : List MemPlace} (h : fileElem v = some (.nil, ps)) : v = .pointer none := by
  unfold fileElem at h
  split at h
  · simp at h
  · rfl
  · cases h
theorem fileElem_inv_ptr {v : Value} {b : Nat} {ps : List MemPlace} (h : fileElem v = some (.lit (.int .i64 b), ps)) : v = .pointer (some ⟨b, 0, none⟩) := by
  unfold fileElem at h
  split at h
  · rename_i b'
    simp at h
    obtain ⟨h, _⟩ := h
    have : b' = b := by omega
    rw [this]
  · simp at h
  · cases h

theorem key9 (s : ByteArray) (hs : s.size ≤ maxLen) : keyOf Try.prog 9 (.string s) = some (.string s.data.toList) := keyOf_string_mk Try.underlying9 hs

theorem ret_clone (s : ByteArray) (w : World) (hlim : s.size ≤ 281474976710656) :
    Calls Try.prog 70 #[.string s] w fun e w' => e = .returned (.string s) ∧ Below w.heap.size w w' := by
  go_enter Try.func70, Try.ntmps70
  go_wp2_with (go_at_call 75; refine (Try.stringslite_Clone _ _ hlim).mono ?_; rintro e w' ⟨rfl, hb⟩)
  go_ret
  exact ⟨rfl, hb⟩

/-- What a look-up in a directory gives, as the walk wants it. -/
theorem dirLook {w : World} {b n : Nat} {D : DataW Unit} (h : w.ownsMap Try.prog 9 fileElem b n D) {s : ByteArray} (hs : s.size ≤ maxLen) :
    ∃ v ps, (Instr.lookup 55 (.map (some b)) (.string s) false).run Try.prog w = .ok v w ∧ fileElem v = some (D.atKey (.string s.data.toList) .nil, ps) :=
  h.lookup law9 Try.underlying55 (Try.zeroValue70 _) fileElem_nil (key9 s hs)

section
variable (d : Nat) (cap used ops : Int) (nb db : Nat) (pv : Value) (fb : Nat) (stop : Int) (n : Nat) (N : DataW Unit) (s : ByteArray) (w : World)

set_option maxHeartbeats 400000 in
theorem find_bad (hs : s.size ≤ maxLen) (hr : rn s = false) :
    Calls Try.prog 41 #[.pointer (some ⟨d, 0, none⟩), .string s] w fun e w' => e = .returned (.tuple #[.pointer none, .int .i64 2]) ∧ w' = w := by
  go_enter Try.func41, Try.ntmps41
  go_wp2_with (go_at_call 67; refine (rightName_any _ _ hs).mono ?_; rintro e w' ⟨rfl, rfl⟩)
  go_ret2
  exact ⟨rfl, rfl⟩

set_option maxHeartbeats 400000 in
theorem find_none (hs : s.size ≤ maxLen) (hr : rn s = true) (hd : DiskAt w d cap used ops nb db pv fb stop) (hN : w.ownsMap Try.prog 9 fileElem nb n N) (hat : N.atKey (.string s.data.toList) .nil = .nil) :
    Calls Try.prog 41 #[.pointer (some ⟨d, 0, none⟩), .string s] w fun e w' => e = .returned (.tuple #[.pointer none, .int .i64 3]) ∧ w' = w := by
  obtain ⟨v, ps, hlook, hv⟩ := dirLook hN hs
  rw [hat] at hv
  obtain rfl := fileElem_inv_nil hv
  obtain ⟨c0, c1, c2, c3, c4, c5, c6, c7, cf⟩ := hd.cells
  clear hv hat
  go_enter Try.func41, Try.ntmps41
  go_wp2_with (go_at_call 67; refine (rightName_any _ _ hs).mono ?_; rintro e w' ⟨rfl, rfl⟩)
  go_ret2
  exact ⟨rfl, rfl⟩

set_option maxHeartbeats 400000 in
theorem find_some (f : Nat) (hs : s.size ≤ maxLen) (hr : rn s = true) (hd : DiskAt w d cap used ops nb db pv fb stop) (hN : w.ownsMap Try.prog 9 fileElem nb n N) (hat : N.atKey (.string s.data.toList) .nil = .lit (.int .i64 f)) :
    Calls Try.prog 41 #[.pointer (some ⟨d, 0, none⟩), .string s] w fun e w' => e = .returned (.tuple #[.pointer (some ⟨f, 0, none⟩), .int .i64 0]) ∧ w' = w := by
  obtain ⟨v, ps, hlook, hv⟩ := dirLook hN hs
  rw [hat] at hv
  obtain rfl := fileElem_inv_ptr hv
  obtain ⟨c0, c1, c2, c3, c4, c5, c6, c7, cf⟩ := hd.cells
  clear hv hat
  go_enter Try.func41, Try.ntmps41
  go_wp2_with (go_at_call 67; refine (rightName_any _ _ hs).mono ?_; rintro e w' ⟨rfl, rfl⟩)
  go_ret2
  exact ⟨rfl, rfl⟩
end

/-- What a change does to a directory. -/
def doD (D : DataW Unit) (old name : ByteArray) (f : DataW Unit) : DataW Unit :=
  let D1 := if old.toList.isEmpty = true then D else D.del (.string old.data.toList)
  if name.toList.isEmpty = true then D1 else D1.put (.string name.data.toList) f

theorem turned3 {w w1 : World} {b : Nat} {x y z : Value} {t : TypeId} (h : (w.alloc (.cells #[x, y, z] t)).mapTurned w1 b) (hb : b < w.heap.size) :
    w1.cell? ⟨w.heap.size, 0, none⟩ = some x ∧ w1.cell? ⟨w.heap.size, 1, none⟩ = some y ∧ w1.cell? ⟨w.heap.size, 2, none⟩ = some z := by
  have h1 : w1.heap[w.heap.size]? = some (.cells #[x, y, z] t) := (h.grown.block w.heap.size (by simp) (fun e => by cases e; omega)).trans (heap_alloc_new w _)
  refine ⟨?_, ?_, ?_⟩ <;> (rw [cell_of_heap h1]; rfl)

set_option maxRecDepth 100000 in
set_option maxHeartbeats 1000000 in
theorem do_any (b n : Nat) (D : DataW Unit) (old name : ByteArray) (p : Option Addr) (fd : DataW Unit) (w : World) (hown : w.ownsMap Try.prog 9 fileElem b n D) (hn : n < 1000000000)
    (ho : old.size ≤ maxLen) (hm : name.size ≤ maxLen) (hp : fileElem (.pointer p) = some (fd, [])) :
    Calls Try.prog 63 #[.map (some b), .agg #[.string old, .string name, .pointer p]] w fun e w' => e = .returned (.tuple #[]) ∧ w'.ownsMap Try.prog 9 fileElem b (n + 1) (doD D old name fd) ∧ Kept (fun k => k = b) w w' := by
  have hlt := hown.lt
  have HN : Hid (n < maxLen) := by show n < maxLen; unfold maxLen; omega
  have HP : Hid (fileElem (.pointer p) = some (fd, [])) := hp
  clear hp
  cases h1 : old.toList.isEmpty <;> cases h2 : name.toList.isEmpty
  · have HD : Hid (doD D old name fd = (D.del (.string old.data.toList)).put (.string name.data.toList) fd) := by simp [doD, h1, h2, Hid]
    go_enter Try.func63, Try.ntmps63
    go_wp2_with (first | (at_delete; refine wpList_delete_own _ rfl _ _ 55 9 rfl 70 law9 Try.underlying55 _ b n D rfl (hown.alloc _) _ _ rfl (key9 _ ho) ?_; intro w1 hown1 hturn1; obtain ⟨t0, t1, t2⟩ := turned3 hturn1 hlt) | (at_mapUpdate; refine wpList_mapUpdate_in _ rfl _ _ _ 55 rfl 9 70 law9 Try.underlying55 _ b n _ rfl hown1 HN.out _ _ _ rfl rfl (key9 _ hm) _ _ HP.out ?_; intro w2 hown2 hturn2))
    go_end0
    exact ⟨rfl, by rw [HD.out]; exact hown2, (((Kept.refl (fun k => k = b) w).alloc _).turned hturn1 (fun _ => rfl)).turned hturn2 (fun _ => rfl)⟩
  · have HD : Hid (doD D old name fd = D.del (.string old.data.toList)) := by simp [doD, h1, h2, Hid]
    go_enter Try.func63, Try.ntmps63
    go_wp2_with (first | (at_delete; refine wpList_delete_own _ rfl _ _ 55 9 rfl 70 law9 Try.underlying55 _ b n D rfl (hown.alloc _) _ _ rfl (key9 _ ho) ?_; intro w1 hown1 hturn1; obtain ⟨t0, t1, t2⟩ := turned3 hturn1 hlt))
    go_end0
    exact ⟨rfl, by rw [HD.out]; exact hown1.mono (Nat.le_succ _), ((Kept.refl (fun k => k = b) w).alloc _).turned hturn1 (fun _ => rfl)⟩
  · have HD : Hid (doD D old name fd = D.put (.string name.data.toList) fd) := by simp [doD, h1, h2, Hid]
    go_enter Try.func63, Try.ntmps63
    go_wp2_with (first | (at_mapUpdate; refine wpList_mapUpdate_in _ rfl _ _ _ 55 rfl 9 70 law9 Try.underlying55 _ b n _ rfl (hown.alloc _) HN.out _ _ _ rfl rfl (key9 _ hm) _ _ HP.out ?_; intro w2 hown2 hturn2))
    go_end0
    exact ⟨rfl, by rw [HD.out]; exact hown2, ((Kept.refl (fun k => k = b) w).alloc _).turned hturn2 (fun _ => rfl)⟩
  · have HD : Hid (doD D old name fd = D) := by simp [doD, h1, h2, Hid]
    go_enter Try.func63, Try.ntmps63
    go_wp2
    go_end0
    exact ⟨rfl, by rw [HD.out]; exact (hown.alloc _).mono (Nat.le_succ _), (Kept.refl (fun k => k = b) w).alloc _⟩

end Go.Proofs.Ytipakfdebccchaa

/- A change is done to the names, and pends. -/
namespace Go.Proofs.Ytipakfdebccchaa
open Go.RowKit Go.Maps
open Go.WideMaps Go.WideElems

theorem info83 : (Try.prog.info? 101).map (fun i => (i.zero, i.size, i.bytes)) = some (some (.agg #[.string ByteArray.empty, .string ByteArray.empty, .pointer none]), 3, 40) := by kernel_rfl

/-- A pending change, as its three cells. -/
def chCells (c : ByteArray × ByteArray × Option Addr) : List Value := [.string c.1, .string c.2.1, .pointer c.2.2]
def chRow (l : List (ByteArray × ByteArray × Option Addr)) : List Value := l.flatMap chCells

/-- The change that lies in the block behind w's, and nothing of w has turned. -/
def Boxed (w : World) (old name : ByteArray) (p : Option Addr) (w' : World) : Prop := w'.heap[w.heap.size]? = some (.cells #[.string old, .string name, .pointer p] 101) ∧ Kept (fun _ => False) w w'
section
variable {w w' : World} {old name : ByteArray} {p : Option Addr}
theorem Boxed.start : Boxed w old name p (w.alloc (.cells #[.string old, .string name, .pointer p] 101)) := ⟨heap_alloc_new w _, (Kept.refl _ w).alloc _⟩
theorem Boxed.drew (h : Boxed w old name p w') : Boxed w old name p w'.drew := ⟨h.1, h.2.drew⟩
theorem Boxed.lt (h : Boxed w old name p w') : w.heap.size < w'.heap.size := (Array.getElem?_eq_some_iff.1 h.1).1
theorem Boxed.below (h : Boxed w old name p w') {w'' : World} (hb : Below w'.heap.size w' w'') : Boxed w old name p w'' := ⟨(hb.block _ h.lt).trans h.1, h.2.below hb⟩
theorem Boxed.set0 (h : Boxed w old name p w') : Boxed w old name p (w'.setCell ⟨w.heap.size, 0, none⟩ (.string old)) := ⟨heap_setCell_same h.1 _, h.2.setCell (fun e => absurd e (by simp)) _⟩
theorem Boxed.set1 (h : Boxed w old name p w') : Boxed w old name p (w'.setCell ⟨w.heap.size, 1, none⟩ (.string name)) := ⟨heap_setCell_same h.1 _, h.2.setCell (fun e => absurd e (by simp)) _⟩
theorem Boxed.all (h : Boxed w old name p w') : w'.cell? ⟨w.heap.size, 0, none⟩ = some (.string old) ∧ w'.cell? ⟨w.heap.size, 1, none⟩ = some (.string name) ∧ w'.cell? ⟨w.heap.size, 2, none⟩ = some (.pointer p) ∧ w'.frozen? ⟨w.heap.size, 0, none⟩ = false ∧ w'.frozen? ⟨w.heap.size, 1, none⟩ = false ∧ Boxed w old name p w' :=
  ⟨by rw [cell_of_heap h.1]; rfl, by rw [cell_of_heap h.1]; rfl, by rw [cell_of_heap h.1]; rfl, frozen_of_heap h.1, frozen_of_heap h.1, h⟩
end

theorem goOn {S G : World → Prop} {W : World} (h : S W) (k : ∀ W1, S W1 → G W1) : G W := k W h

/-- The disk and the change, both there. -/
def Mid (d : Nat) (cap used ops : Int) (nb db : Nat) (pv : Value) (fb : Nat) (stop : Int) (B : Nat) (old name : ByteArray) (p : Option Addr) (w : World) : Prop :=
  DiskAt w d cap used ops nb db pv fb stop ∧ w.heap[B]? = some (.cells #[.string old, .string name, .pointer p] 101)
theorem Mid.all {d : Nat} {cap used ops : Int} {nb db : Nat} {pv : Value} {fb : Nat} {stop : Int} {B : Nat} {old name : ByteArray} {p : Option Addr} {w : World} (h : Mid d cap used ops nb db pv fb stop B old name p w) :
    w.cell? ⟨d, 3, none⟩ = some (.map (some nb)) ∧ w.cell? ⟨B, 0, none⟩ = some (.string old) ∧ w.cell? ⟨B, 1, none⟩ = some (.string name) ∧ w.cell? ⟨B, 2, none⟩ = some (.pointer p) ∧ Mid d cap used ops nb db pv fb stop B old name p w :=
  ⟨h.1.cells.2.2.2.1, by rw [cell_of_heap h.2]; rfl, by rw [cell_of_heap h.2]; rfl, by rw [cell_of_heap h.2]; rfl, h⟩
theorem Mid.drew {d : Nat} {cap used ops : Int} {nb db : Nat} {pv : Value} {fb : Nat} {stop : Int} {B : Nat} {old name : ByteArray} {p : Option Addr} {w : World} (h : Mid d cap used ops nb db pv fb stop B old name p w) : Mid d cap used ops nb db pv fb stop B old name p w.drew := h

theorem DiskAt.grown {w w' : World} {d : Nat} {cap used ops : Int} {nb db : Nat} {pv : Value} {fb : Nat} {stop : Int} (h : DiskAt w d cap used ops nb db pv fb stop) {row : Option Nat} (g : w.grownBy w' row) (hr : row ≠ some d) : DiskAt w' d cap used ops nb db pv fb stop :=
  (g.block d h.lt (fun e => hr e.symm)).trans h

theorem chRow_snoc (l : List (ByteArray × ByteArray × Option Addr)) (old name : ByteArray) (p : Option Addr) : chRow (l ++ [(old, name, p)]) = chRow l ++ [.string old, .string name, .pointer p] := by simp [chRow, chCells]

theorem DiskAt.ne_row {w : World} {d : Nat} {cap used ops : Int} {nb db : Nat} {pv : Value} {fb : Nat} {stop : Int} (h : DiskAt w d cap used ops nb db pv fb stop) {base n size : Nat} {e : TypeId} {v : Value} {xs : List Value} (ho : w.ownsRow base e size v n xs) (he : e ≠ 59) : v.ownBlock ≠ some d := by
  intro hv
  rcases ho.2 with ⟨rfl, _⟩ | ⟨g, cap, cur, rfl, _, hg, _⟩
  · cases hv
  · simp [Value.ownBlock] at hv
    subst hv
    unfold DiskAt at h
    rw [h] at hg
    simp at hg
    exact he hg.2.symm

set_option maxRecDepth 100000 in
set_option maxHeartbeats 1000000 in
theorem apply_any (d : Nat) (cap used ops : Int) (nb db : Nat) (pv : Value) (fb : Nat) (stop : Int) (n : Nat) (N : DataW Unit) (pend : List (ByteArray × ByteArray × Option Addr)) (old name : ByteArray) (p : Option Addr) (fd : DataW Unit) (w : World)
    (hd : DiskAt w d cap used ops nb db pv fb stop) (hN : w.ownsMap Try.prog 9 fileElem nb n N) (hP : w.ownsRow 0 101 3 pv pend.length (chRow pend)) (hn : n < 1000000000) (hl : pend.length < 1000000000)
    (ho : old.size ≤ 1000000) (hm : name.size ≤ 1000000) (hp : fileElem (.pointer p) = some (fd, [])) :
    Calls Try.prog 60 #[.pointer (some ⟨d, 0, none⟩), .agg #[.string old, .string name, .pointer p]] w fun e w' => e = .returned (.tuple #[]) ∧
      ∃ pv', DiskAt w' d cap used ops nb db pv' fb stop ∧ w'.ownsMap Try.prog 9 fileElem nb (n + 1) (doD N old name fd) ∧ w'.ownsRow 0 101 3 pv' (pend.length + 1) (chRow (pend ++ [(old, name, p)])) ∧
      (pv'.ownBlock = pv.ownBlock ∨ ∃ g, pv'.ownBlock = some g ∧ w.heap.size ≤ g) ∧ Kept (fun k => k = d ∨ k = nb ∨ pv.ownBlock = some k) w w' := by
  obtain ⟨c0, c1, c2, c3, c4, c5, c6, c7, cf⟩ := hd.cells
  have hne := hd.ne_map hN
  have hlt := hd.lt
  have HP : Hid (fileElem (.pointer p) = some (fd, [])) := hp
  clear hp
  go_enter Try.func60, Try.ntmps60
  go_wp2_with fail
  go_region_held3 (fun w' => w'.cell? ⟨w.heap.size, 0, none⟩ = some (.string old) ∧ w'.cell? ⟨w.heap.size, 1, none⟩ = some (.string name) ∧ w'.cell? ⟨w.heap.size, 2, none⟩ = some (.pointer p) ∧ w'.frozen? ⟨w.heap.size, 0, none⟩ = false ∧ w'.frozen? ⟨w.heap.size, 1, none⟩ = false ∧ Boxed w old name p w')
    (first
      | (refine Boxed.all ?_; exact Boxed.start.drew)
      | (refine Boxed.all ?_; assumption)
      | (refine Boxed.all ?_; exact (‹_ ∧ _ ∧ _ ∧ _ ∧ _ ∧ Boxed w old name p _›).2.2.2.2.2.set0)
      | (refine Boxed.all ?_; exact (‹_ ∧ _ ∧ _ ∧ _ ∧ _ ∧ Boxed w old name p _›).2.2.2.2.2.set1))
    (first
      | (go_at_call_of 70 (Value.string old); have hbx := (‹_ ∧ _ ∧ _ ∧ _ ∧ _ ∧ Boxed w old name p _›).2.2.2.2.2; refine (ret_clone old _ (by omega)).mono ?_; rintro e w' ⟨rfl, hb⟩; replace hb := hbx.below hb; clear hbx)
      | (go_at_call_of 70 (Value.string name); have hbx := (‹_ ∧ _ ∧ _ ∧ _ ∧ _ ∧ Boxed w old name p _›).2.2.2.2.2; refine (ret_clone name _ (by omega)).mono ?_; rintro e w' ⟨rfl, hb⟩; replace hb := hbx.below hb; clear hbx))
  all_goals
    refine goOn (‹_ ∧ _ ∧ _ ∧ _ ∧ _ ∧ Boxed w old name p _›).2.2.2.2.2 ?_
    intro W hbx
    have hdW := hd.kept hbx.2 id
    have hNW := hbx.2.ownsMap hN id
    have hPW := hbx.2.ownsRow hP (fun _ _ => id)
    have hmid : Mid d cap used ops nb db pv fb stop w.heap.size old name p W := ⟨hdW, hbx.1⟩
    obtain ⟨m0, m1, m2, m3, m4⟩ := hmid.all
    go_wp2_with fail
    go_region_held3 (fun w' => w'.cell? ⟨d, 3, none⟩ = some (.map (some nb)) ∧ w'.cell? ⟨w.heap.size, 0, none⟩ = some (.string old) ∧ w'.cell? ⟨w.heap.size, 1, none⟩ = some (.string name) ∧ w'.cell? ⟨w.heap.size, 2, none⟩ = some (.pointer p) ∧ Mid d cap used ops nb db pv fb stop w.heap.size old name p w')
      (first | (refine Mid.all ?_; exact hmid) | (refine Mid.all ?_; assumption))
      (first | (go_at_call 63; refine (do_any nb n N old name p fd W.drew hNW.drew hn (by unfold maxLen; omega) (by unfold maxLen; omega) HP.out).mono ?_; rintro e w' ⟨rfl, hND, hk⟩; have hmid2 : Mid d cap used ops nb db pv fb stop w.heap.size old name p w' := ⟨DiskAt.kept (w := W.drew) (O := fun k => k = nb) hmid.1 hk hne, Kept.heap (w := W.drew) (O := fun k => k = nb) hk hmid.2 (fun e => by have := hN.lt; omega)⟩))
    refine goOn (S := fun W2 => Mid d cap used ops nb db pv fb stop w.heap.size old name p W2 ∧ W2.ownsMap Try.prog 9 fileElem nb (n + 1) (doD N old name fd) ∧ Kept (fun k => k = nb) W W2) ⟨hmid2, hND, ((Kept.refl (fun k => k = nb) W).drew).trans hk (fun _ _ h => h)⟩ ?_
    clear hmid2 hND hk m0 m1 m2 m3 m4
    rintro W2 ⟨hmid2, hND, hk⟩
    have hP2 := hk.ownsRow hPW (fun k hk' e => map_ne_row hNW hPW (by rw [hk', e]))
    have hl2 := hmid2.1.lt
    obtain ⟨e0, e1, e2, e3, e4, e5, e6, e7, ef⟩ := hmid2.1.cells
    obtain ⟨m0, m1, m2, m3, m4⟩ := hmid2.all
    obtain ⟨i0, hi0, hz0, hz1, hz2⟩ := info_parts info83
    have hwl : w.heap.size < W2.heap.size := (Array.getElem?_eq_some_iff.1 hmid2.2).1
    go_wp2_with fail
    go_region_law (refine step_append_lies _ (by rfl) _ _ _ (by rfl) 0 101 i0 _ 3 40 Try.underlying57 hi0 hz0 hz1 hz2 rfl (by omega) pv pend.length (chRow pend) (by rfl) ((hP2.alloc _).drew) ⟨W2.heap.size, 0, none⟩ 1 1 [.string old, .string name, .pointer p] (by rfl) (by rfl) (World.news_of_block (cs := #[.string old, .string name, .pointer p]) (t := 101) (fr := (0, 0)) (heap_alloc_new W2 _)) (by simp [Value.oneCell']) (by omega) (by unfold maxLen; omega) (by omega) (by simp) (W2.heap.size + 1) (by simp) ?_; intro gg cap2 w1 hown1 hgrow hat hlt1; have hdw1 := DiskAt.grown (w := (W2.alloc _).drew) (hmid2.1.alloc _) hgrow (hmid2.1.ne_row hP2 (by decide)); obtain ⟨q0, q1, q2, q3, q4, q5, q6, q7, qf⟩ := hdw1.cells)
    all_goals
      go_wp2
      go_end0
      have hkd : Kept (fun k => k = d) w1 (w1.setCell ⟨d, 5, none⟩ (.slice (some ⟨gg, 0, none⟩) (pend.length + 1) cap2)) := (Kept.refl (fun k => k = d) w1).setCell (fun _ => rfl) _
      refine ⟨rfl, .slice (some ⟨gg, 0, none⟩) (pend.length + 1) cap2, hdw1.set5 _, ?_, ?_, ?_, ?_⟩
      · exact hkd.ownsMap ((World.ownsMap.kept (w := (W2.alloc _).drew) (hND.alloc _) hgrow (Ne.symm (map_ne_row hND hP2)))) (fun e => hne e.symm)
      · rw [chRow_snoc]
        exact hkd.ownsRow hown1 (fun k hk' e => hdw1.ne_row hown1 (by decide) (by rw [hk', e]))
      · rcases hat with h | h
        · exact Or.inl h.symm
        · exact Or.inr ⟨gg, rfl, by omega⟩
      · have k1 : Kept (fun k => k = d ∨ k = nb ∨ pv.ownBlock = some k) w W2 := (hbx.2.mono (fun _ _ h => h.elim)).trans hk (fun _ _ h => Or.inr (Or.inl h))
        exact ((k1.alloc (.cells #[.string old, .string name, .pointer p] 101)).drew.grown hgrow (fun k _ h => Or.inr (Or.inr h))).setCell (fun _ => Or.inl rfl) _

end Go.Proofs.Ytipakfdebccchaa
