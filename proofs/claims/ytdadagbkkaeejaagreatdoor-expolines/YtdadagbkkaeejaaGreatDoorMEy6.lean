/- A body's lines: how the program tells them. -/
import Derived.RangeFuncNested
import Derived.RangeFuncBound
import Derived.RangeFuncCalls
import Derived.RangeFuncLeaves
import Derived.RangeFuncBox
import Derived.Shelf.Abstract
import Derived.Shelf.RegionOpen
import Derived.OwnWalkIn
import Derived.TacticsInMore
import Derived.LoopNIn
import Derived.LoopIn
import Derived.Test.YtdadagbkkaeejaaGreatDoorMBt
import Derived.Test.YtdadagbkkaeejaaGreatDoorMEx7
import Derived.Test.YtdadagbkkaeejaaGreatDoorSv
namespace Go.Proofs.YtdadagbkkaeejaaGreatDoor
open Go.RowKit Go.Maps Go.Shelf
attribute [local go_sem] Oper.semAt_some

theorem bytesIn_of {w : World} {a : Option Addr} {n c : Nat} {bs : List UInt8} (h : BytesAt w (.slice a n c) bs) : Lib.BytesIn w a n (bs.map fun b => (b.toNat : Int)) := fun hn => by
  obtain ⟨a', c', e, -, -, hc⟩ := h
  cases e
  obtain ⟨b, o, e, -, -⟩ := hc 0 hn
  refine ⟨b, o, e, fun i hi => ?_⟩
  obtain ⟨b', o', e', -, h1⟩ := hc i hi
  rw [e] at e'
  cases e'
  rw [h1]
  simp [List.getD, hi]
theorem bytesOf_map (bs : List UInt8) : Lib.bytesOf (bs.map fun b => (b.toNat : Int)) = bs := by
  induction bs with
  | nil => rfl
  | cons x t ih =>
    unfold Lib.bytesOf at *
    simp only [List.map_cons, Int.toNat_natCast]
    rw [ih]
    simp

/-- A slice of bytes, cut at its first line end. -/
theorem cutB_any (w0 : World) (v : Value) (bs : List UInt8) (hB : BytesAt w0 v bs) (hne : bs ≠ []) (hl : bs.length ≤ 100000) (W : World) (hb : Below w0.heap.size w0 W) (k : Nat) (hk : W.cell? ⟨k, 0, none⟩ = some (.int .u8 10)) (hM : MaxL W) :
    Calls Tryz.prog 14 #[v, .slice (some ⟨k, 0, none⟩) 1 1] W fun e w' => ∃ a1 c1 a2 c2 f line rest, e = .returned (.tuple #[.slice a1 line.length c1, .slice a2 rest.length c2, .bool f]) ∧ BytesAt w0 (.slice a1 line.length c1) line ∧ BytesAt w0 (.slice a2 rest.length c2) rest ∧ linesF bs = line :: linesF rest ∧ rest.length < bs.length ∧ ∃ q, w' = W.drewN q := by
  obtain ⟨a, c, rfl, hlc, hn, -⟩ := id hB
  obtain ⟨m, hm⟩ := hM
  have hy1 : ∀ x ∈ (bs.map fun b => (b.toNat : Int)), 0 ≤ x ∧ x < 256 := fun x hx => by
    obtain ⟨y, _, rfl⟩ := List.mem_map.1 hx
    have := y.toNat_lt
    omega
  have hy2 : ∀ y ∈ ([10] : List Int), 0 ≤ y ∧ y < 256 := fun y hy => by
    rw [List.mem_singleton.1 hy]
    omega
  have hy3 : Lib.BytesIn W (some ⟨k, 0, none⟩) 1 [10] := fun _ => ⟨k, 0, rfl, fun i hi => by
    obtain rfl : i = 0 := by omega
    exact hk⟩
  have h := Any.bytes_Cut_all Tryz.laysCutB a (some ⟨k, 0, none⟩) bs.length c 1 1 (bs.map fun b => (b.toNat : Int)) [10] m W (by simp) rfl hy1 hy2
    (bytesIn_of (hB.below hb)) hy3 (fun e => (hn e).1) hlc.1 (by omega) (by omega) hm
  rw [bytesOf_map] at h
  have e10 : Lib.bytesOf [10] = [10] := rfl
  rw [e10] at h
  refine h.mono ?_
  rintro e w' ⟨rfl, q, rfl⟩
  rcases linesF_cut hne with ⟨h1, h2⟩ | ⟨i, h1, h2, h3⟩
  · rw [h1]
    exact ⟨a, c, none, 0, false, bs, [], rfl, hB, BytesAt.nil, by rw [h2, linesF_nil], List.length_pos_iff.2 hne, q, rfl⟩
  · rw [h1]
    have g1 := hB.take i (by omega)
    obtain ⟨b, o, rfl, -⟩ := hB.one 0 (List.length_pos_iff.2 hne)
    have g2 := hB.rest (i + 1) (by omega)
    have e1 : (bs.take i).length = i := by simp; omega
    have e2 : (bs.drop (i + 1)).length = bs.length - (i + 1) := by simp
    refine ⟨_, c, _, _, true, bs.take i, bs.drop (i + 1), ?_, by rw [e1]; exact g1, by rw [e2]; exact g2, h3, by rw [e2]; omega, q, rfl⟩
    unfold Lib.cutV Lib.fromV
    rw [if_pos (by omega), e1, e2]
    simp only [Int.toNat_natCast, Option.map_some, Addr.add_lit]

/-- Lines with their numbers. -/
def numL : Nat → List (List UInt8) → List (Int × ByteArray)
  | _, [] => []
  | m, x :: t => ((m : Int), mkB x) :: numL (m + 1) t
theorem numL_length : ∀ (m : Nat) (l : List (List UInt8)), (numL m l).length = l.length
  | _, [] => rfl
  | m, x :: t => by simp [numL, numL_length (m + 1) t]
def encN (x : Int × ByteArray) : Array Value := #[.int .i64 x.1, .string x.2]
def lenV : Value → Nat
  | .slice _ n _ => n
  | _ => 0
theorem grownN (w : World) (k : Nat) : w.grownBy (w.drewN k) none := by
  have h := below_drewN (Below.refl w.heap.size w) k
  exact ⟨h.os, h.tape, h.output, h.size, fun i hi _ => h.block i hi⟩

set_option maxRecDepth 100000 in
set_option maxHeartbeats 2000000 in
theorem eachX_in (n : Nat) (hn : 1 ≤ n) (l Bs : Nat) (w0 : World) (v : Value) (bs : List UInt8) (hB : BytesAt w0 v bs) (hlen : bs.length ≤ 100000) (hM : ∀ W, Below w0.heap.size w0 W → MaxL W) (J Jx : List (Int × ByteArray) → World → Prop) (W : World) (hJ : AbidesFrom W.heap.size J)
    (hY : ∀ pre x W, J pre W → pre.length < (linesF bs).length → YieldAt Fence.wide (n - 1) Tryz.prog l (encN x) W fun e W' =>
      (e = .returned (.bool true) ∧ J (pre ++ [x]) W' ∧ Below w0.heap.size W W') ∨ (e = .returned (.bool false) ∧ Jx (pre ++ [x]) W'))
    (hbW : Below w0.heap.size w0 W) (hBs : W.cell? ⟨Bs, 0, none⟩ = some v) (h0 : J [] W) :
    CallsIn Fence.wide n Tryz.prog 13 #[.func (.yield l) #[] #[], .pointer (some ⟨Bs, 0, none⟩)] W fun e W' => (∃ v, e = .returned v) ∧
      ((∃ ys, ys = numL 1 (linesF bs) ∧ J ys W') ∨ (∃ pre, pre <+: numL 1 (linesF bs) ∧ Jx pre W')) := by
  obtain ⟨a, c, rfl, -, -⟩ := id hB
  have HL : Hid (BytesAt w0 (.slice a bs.length c) bs) := hB
  have HJ : Hid (∀ s A B, J s A → A.grownBy B none → J s B) := fun s A B hs hg => hJ s A B none hs hg (fun r e => by cases e)
  have HY : Hid (∀ pre x W, J pre W → pre.length < (linesF bs).length → YieldAt Fence.wide (n - 1) Tryz.prog l (encN x) W fun e W' =>
      (e = .returned (.bool true) ∧ J (pre ++ [x]) W' ∧ Below w0.heap.size W W') ∨ (e = .returned (.bool false) ∧ Jx (pre ++ [x]) W')) := hY
  have HB : Hid (Below w0.heap.size w0 W) := hbW
  have HM : Hid (∀ W, Below w0.heap.size w0 W → MaxL W) := hM
  have tC : Fence.wide.fn 14 := trivial
  clear hB hJ hY hbW hM
  refine callsIn_of_wp Tryz.func13 rfl trivial ?_ rfl
  simp only [Tryz.ntmps13, List.size_toArray, List.length_cons, List.length_nil, Nat.reduceAdd, Nat.reduceSub, Array.replicate_succ, Array.replicate_zero, List.push_toArray, List.append_toArray, List.nil_append, List.cons_append]
  gi_wp2
  gi_loopw [3, 4] (fun r i wr => ∃ (m : Nat) (xs : List UInt8) (a : Option Addr) (c : Nat) (pre : List (Int × ByteArray)), i = .int .i64 m ∧ r = .slice a xs.length c ∧ xs.length ≤ 100000 ∧ m ≤ 100001 ∧ Hid (BytesAt w0 (.slice a xs.length c) xs) ∧ Hid (pre.length + 1 = m) ∧ Hid (numL 1 (linesF bs) = pre ++ numL m (linesF xs)) ∧ Hid (J pre wr) ∧ Hid (Below w0.heap.size w0 wr))
    (fun r _ _ => lenV r)
  case atStart => exact ⟨1, bs, a, c, [], rfl, rfl, hlen, by omega, HL.out, rfl, rfl, h0, HB.out⟩
  case round =>
    obtain ⟨m, xs, a', c', pre, rfl, rfl, hxl, hm, HX, HP, HN, HJp, hnx⟩ := hrel
    clear HL HB h0 hBs
    by_cases hne : xs = []
    · subst hne
      have HE : Hid (numL 1 (linesF bs) = pre) := by
        show _ = _
        rw [HN.out, linesF_nil, show numL m [] = [] from rfl, List.append_nil]
      clear HN
      gi_wp2
      go_end0
      exact ⟨⟨_, rfl⟩, .inl ⟨_, rfl, by rw [HE.out]; exact HJp.out⟩⟩
    · have hpos : 0 < xs.length := List.length_pos_iff.2 hne
      have hsz : w0.heap.size ≤ wr.heap.size := hnx.out.size
      have hA : Below w0.heap.size w0 (wr.alloc (.cells #[.int .u8 10] 5)) := hnx.out.alloc hsz _
      have HJA : Hid (J pre (wr.alloc (.cells #[.int .u8 10] 5))) := HJ.out _ _ _ HJp.out (World.grownBy_alloc wr _ none)
      have hcut := cutB_any w0 _ xs HX.out hne hxl _ hA wr.heap.size (World.news_of_block (heap_alloc_new wr _) 0 _ rfl) (HM.out _ hA)
      have HA : Hid (Below w0.heap.size w0 (wr.alloc (.cells #[.int .u8 10] 5))) := hA
      have HPL : Hid (∀ line rest, linesF xs = line :: linesF rest → numL 1 (linesF bs) = (pre ++ [((m : Int), mkB line)]) ++ numL (m + 1) (linesF rest) ∧ pre.length < (linesF bs).length ∧ m ≤ 100000) := fun line rest e => by
        have h1 := HN.out
        rw [e] at h1
        have h2 : numL 1 (linesF bs) = (pre ++ [((m : Int), mkB line)]) ++ numL (m + 1) (linesF rest) := by rw [h1, List.append_assoc]; rfl
        have h3 := congrArg List.length h2
        rw [numL_length, List.length_append, List.length_append, List.length_singleton] at h3
        have h4 := linesF_count bs
        have h5 := HP.out
        exact ⟨h2, by omega, by omega⟩
      clear hA hne HN HX
      gi_wp2_with (gi_at_call 14; refine (callsIn_wide.2 hcut).mono ?_; clear hcut; rintro e W2 ⟨a1, c1, a2, c2, f, line, rest, rfl, hl1, hr1, hlin, hless, q, hw2⟩; obtain ⟨hN2, hpl, hm2⟩ := HPL.out line rest hlin; have HN2 : Hid (numL 1 (linesF bs) = (pre ++ [((m : Int), mkB line)]) ++ numL (m + 1) (linesF rest)) := hN2; have hb2 : Below w0.heap.size w0 W2 := (by rw [hw2]; exact below_drewN HA.out q); have hj2 : J pre W2 := (by rw [hw2]; exact HJ.out _ _ _ HJA.out (grownN _ q)); have hcv := (hl1.below hb2).str; obtain ⟨fn, tmps, assign, body, hyy, hR⟩ := HY.out pre ((m : Int), mkB line) W2 hj2 hpl; dsimp only [encN, mkB] at hyy hR; have HR1 : Hid (BytesAt w0 (.slice a2 rest.length c2) rest) := hr1; have HB2 : Hid (Below w0.heap.size w0 W2) := hb2; clear hN2 hlin hb2 hj2 hl1 hr1 HPL hw2)
      refine hR.mono ?_
      rintro e W3 (⟨rfl, hJ3, hk3⟩ | ⟨rfl, hJx3⟩)
      · gi_wp2
        go_roundw
        case rel => exact ⟨m + 1, rest, a2, c2, _, by go_num, rfl, by omega, by omega, HR1.out, by show _ = _; rw [List.length_append, List.length_singleton, HP.out], HN2.out, hJ3, HB2.out.trans hk3⟩
        case measure => simp [lenV]; omega
      · gi_wp2
        refine bodyPost_ret (results_none rfl _ _ _) rfl ?_
        exact ⟨⟨_, rfl⟩, .inr ⟨_, ⟨_, HN2.out.symm⟩, hJx3⟩⟩

set_option maxHeartbeats 1000000 in
theorem eachX_any (a : Option Addr) (len cap : Nat) (w : World) :
    Calls Tryz.prog 9 #[.slice a len cap] w fun e w' => e = .returned (.func (.func 13) #[] #[.pointer (some ⟨w.heap.size, 0, none⟩)]) ∧ w' = w.alloc (.cells #[.slice a len cap] 22) := by
  go_enter Tryz.func9, Tryz.ntmps9
  go_wp2
  go_ret
  exact ⟨rfl, rfl⟩

/-- What each hands back, ranged over: all lines in order, with their numbers, or a beginning of them. -/
theorem eachX_stops (n : Nat) (hn : 1 ≤ n) (Bs : Nat) (w0 : World) (v : Value) (bs : List UInt8) (hB : BytesAt w0 v bs) (hlen : bs.length ≤ 100000) (hM : ∀ W, Below w0.heap.size w0 W → MaxL W) (w : World) (hb : Below w0.heap.size w0 w) (hBs : Bs < w.heap.size) (hc : w.cell? ⟨Bs, 0, none⟩ = some v) :
    SeqStopsK Fence.wide n Tryz.prog 13 #[.pointer (some ⟨Bs, 0, none⟩)] encN (Below w0.heap.size) (fun ys => ys = numL 1 (linesF bs)) (fun pre => pre <+: numL 1 (linesF bs)) (linesF bs).length w := fun l J Jx W hW hJ _ hY h0 =>
  eachX_in n hn l Bs w0 v bs hB hlen hM J Jx W hJ hY (hb.trans (hW.mono hb.size)) ((hW.cell (p := ⟨Bs, 0, none⟩) hBs).trans hc) h0

set_option maxRecDepth 100000 in
set_option maxHeartbeats 1000000 in
theorem cloneX_any (v : Value) (bs : List UInt8) (w : World) (h : BytesAt w v bs) (hl : bs.length ≤ 100000) :
    Calls Tryz.prog 10 #[v] w fun e w' => ∃ a c, e = .returned (.slice a bs.length c) ∧ BytesAt w' (.slice a bs.length c) bs ∧ Below w.heap.size w w' := by
  obtain ⟨a, c, rfl, hlc, -⟩ := id h
  have HL : Hid (∀ W, Below w.heap.size w W → BytesAt W (.slice a bs.length c) bs) := fun W hb => h.below hb
  have HA : Hid (Below w.heap.size w (w.alloc (.cells #[] 5))) := (Below.refl _ w).alloc (Nat.le_refl _) _
  have HE : Hid ((w.alloc (.cells #[] 5)).ownsRow w.heap.size 5 1 (.slice (some ⟨w.heap.size, 0, none⟩) 0 0) 0 []) := ⟨rfl, Or.inr ⟨w.heap.size, 0, #[], rfl, Nat.le_refl _, heap_alloc_new w _, Nat.le_refl _, Nat.zero_le _, rfl, rfl⟩⟩
  have HX : Hid (∀ w1, (w.alloc (.cells #[] 5)).grownBy w1 (Value.slice (some ⟨w.heap.size, 0, none⟩) 0 0).ownBlock → Below w.heap.size w w1) := fun w1 hg1 => HA.out.grown hg1 (by simp) (fun k hk => by simp [Value.ownBlock] at hk; omega)
  have qe : ∀ (w : World) (a : Option Addr) (n c n' c' : Nat), (binOp .eql 22 (.slice a n c) (.slice none n' c')).run Tryz.prog w = .ok (.bool a.isNone) w := fun w a n c n' c' => Lib.run_eql_slice_nil w _ _ a n c n' c' Tryz.underlying22
  clear h
  cases a with
  | none =>
    have hn0 : bs = [] := by
      cases bs with
      | nil => rfl
      | cons x t =>
        obtain ⟨b, o, e, -⟩ := (HL.out w (Below.refl _ _)).one 0 (by simp)
        cases e
    subst hn0
    go_enter Tryz.func10, Tryz.ntmps10
    go_wp2
    go_ret
    exact ⟨none, 0, rfl, BytesAt.nil, Below.refl _ _⟩
  | some ad =>
    go_enter Tryz.func10, Tryz.ntmps10
    go_wp2_with (at_builtin; refine wpList_append_bytes _ rfl _ _ rfl w.heap.size (.slice (some ⟨w.heap.size, 0, none⟩) 0 0) 0 [] rfl HE.out _ bs rfl (HL.out _ HA.out) (by omega) (by simp) ?_; intro v1 w1 hr1 hg1 _; have hb1 := HX.out _ hg1; rw [Nat.zero_add, List.nil_append] at hr1; obtain ⟨a1, c1, rfl⟩ := slice_of_row hr1)
    go_ret
    exact ⟨a1, c1, rfl, BytesAt.of_row hr1, hb1⟩

set_option maxRecDepth 100000 in
set_option maxHeartbeats 1000000 in
/-- Lines hands back the closure of each, over a block that holds a clone. -/
theorem lines_any (v : Value) (bs : List UInt8) (w : World) (h : BytesAt w v bs) (hl : bs.length ≤ 100000) :
    Calls Tryz.prog 6 #[v] w fun e w' => ∃ (B : Nat) (a : Option Addr) (c : Nat), e = .returned (.func (.func 13) #[] #[.pointer (some ⟨B, 0, none⟩)]) ∧ w'.cell? ⟨B, 0, none⟩ = some (.slice a bs.length c) ∧ BytesAt w' (.slice a bs.length c) bs ∧ B < w'.heap.size ∧ Below w.heap.size w w' := by
  have hcl := cloneX_any v bs w h hl
  obtain ⟨a, c, rfl, -, -⟩ := id h
  clear h
  have HEA : Hid (∀ a1 c1 W, Calls Tryz.prog 9 #[.slice a1 bs.length c1] W fun e w' => e = .returned (.func (.func 13) #[] #[.pointer (some ⟨W.heap.size, 0, none⟩)]) ∧ w' = W.alloc (.cells #[.slice a1 bs.length c1] 22)) := fun a1 c1 W => eachX_any a1 bs.length c1 W
  go_enter Tryz.func6, Tryz.ntmps6
  go_wp2_with (first
    | (go_at_call 10; refine hcl.mono ?_; clear hcl; rintro e w1 ⟨a1, c1, rfl, hl1, hb1⟩)
    | (go_at_call 9; refine (HEA.out _ _ _).mono ?_; clear HEA; rintro e w2 ⟨rfl, rfl⟩))
  go_ret
  have hb2 : Below w1.heap.size w1 (w1.alloc (.cells #[.slice a1 bs.length c1] 22)) := (Below.refl _ _).alloc (Nat.le_refl _) _
  exact ⟨w1.heap.size, a1, c1, rfl, World.news_of_block (heap_alloc_new w1 _) 0 _ rfl, hl1.below hb2, by simp, hb1.trans (hb2.mono hb1.size)⟩
end Go.Proofs.YtdadagbkkaeejaaGreatDoor
