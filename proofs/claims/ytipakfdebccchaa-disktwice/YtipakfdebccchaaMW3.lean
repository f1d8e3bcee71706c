/- Texts that belong together. -/
import Derived.Test.YtipakfdebccchaaMW1
import Derived.Shelf.LaysM
import Derived.Shelf.Strconv.Clone
import Derived.Shelf.Sort.Plain
import Derived.Shelf.Strings.Prefix
import Derived.Shelf.Slices.In.SortNone
import Derived.Ground.SlbCloneProg
import Derived.Shelf.Bytes.SlClone
import Derived.Ground.SlmcProg
import Derived.Shelf.SlMaps.Clone
import Derived.Test.YtipakfdebccchaaProg
/- An operation begins: it is counted, and what refuses it is told. -/
namespace Go.Proofs.Ytipakfdebccchaa
open Go.RowKit Go.Maps

def bErr (bb : Bool) (stop : Int) : Int := if stop = 0 then 7 else if bb = true then 6 else 0
def bTorn (bb : Bool) (c stop : Int) : Bool := decide (stop ≠ 0) && bb && (c == 2)
def bStop (stop : Int) : Int := if 0 < stop then stop - 1 else stop

theorem ret_two {a b : Int} {x y : Bool} (h : a = b) (h' : x = y) : Ending.returned (.tuple #[.int .i64 a, .bool x]) = .returned (.tuple #[.int .i64 b, .bool y]) := by rw [h, h']

set_option maxRecDepth 100000 in
set_option maxHeartbeats 1000000 in
theorem begin_core (d : Nat) (cap used ops : Int) (nb db : Nat) (pv : Value) (fb : Nat) (stop : Int) (n : Nat) (F : DataW Unit) (w : World)
    (hd : DiskAt w d cap used ops nb db pv fb stop) (hF : w.ownsMap Try.prog 3 (plainElem Try.prog 3) fb n F) (ho : 0 ≤ ops) (ho' : ops < 1000000000) (hs : -1 ≤ stop) (HS : Hid (stop ≤ 9223372036854775807))
    (c : Int) (bb : Bool) (hlook : ∀ k, (Instr.lookup 56 (.map (some fb)) (.int .i64 ops) true).run Try.prog (w.drewN k) = .ok (.tuple #[.int .i64 c, .bool bb]) (w.drewN k)) :
    Calls Try.prog 59 #[.pointer (some ⟨d, 0, none⟩)] w fun e w' => e = .returned (.tuple #[.int .i64 (bErr bb stop), .bool (bTorn bb c stop)]) ∧ DiskAt w' d cap used (ops + 1) nb db pv fb (bStop stop) ∧
      w'.ownsMap Try.prog 3 (plainElem Try.prog 3) fb n (F.del (.int .i64 ops)) ∧ Kept (fun k => k = d ∨ k = fb) w w' := by
  obtain ⟨c0, c1, c2, c3, c4, c5, c6, c7, cf⟩ := hd.cells
  have hne := hd.ne_map hF
  have hst : Hid (∀ w1 nq, ((World.drewN w nq).drew).mapTurned w1 fb → w1.ownsMap Try.prog 3 (plainElem Try.prog 3) fb n (F.del (.int .i64 ops)) → DiskAt w1 d cap used ops nb db pv fb stop → bStop stop = stop →
      DiskAt (w1.setCell ⟨d, 2, none⟩ (.int .i64 (ops + 1))) d cap used (ops + 1) nb db pv fb (bStop stop) ∧ (w1.setCell ⟨d, 2, none⟩ (.int .i64 (ops + 1))).ownsMap Try.prog 3 (plainElem Try.prog 3) fb n (F.del (.int .i64 ops)) ∧ Kept (fun k => k = d ∨ k = fb) w (w1.setCell ⟨d, 2, none⟩ (.int .i64 (ops + 1)))) :=
    fun w1 nq ht ho h1 hb => ⟨by rw [hb]; exact h1.set2 _, ho.setCell hne.symm _, ((((Kept.refl _ w).drewN nq).drew).turned ht (fun _ => Or.inr rfl)).setCell (fun _ => Or.inl rfl) _⟩
  rcases Int.lt_trichotomy stop 0 with h | h | h
  all_goals cases bb
  all_goals
    go_enter Try.func59, Try.ntmps59
    go_wp2_with fail
    go_quiet (fail)
    go_wp2_with fail
    go_region_held3 (fun w' => w'.cell? ⟨d, 6, none⟩ = some (.map (some fb)) ∧ w'.cell? ⟨d, 2, none⟩ = some (.int .i64 ops)) (first | go_keep | (constructor <;> assumption))
      ((refine step_delete (by rfl) _ _ 56 3 3 (by rfl) law3 Try.underlying56 (plainElem Try.prog 3) fb n F (by rfl) hF _ (.int .i64 ops) (by rfl) (keyOf_int_mk Try.underlying3 (WalkArith.wf_i64 (by omega))) ?_; intro w1 hown1 hturn1; have hd1 := (DiskAt.turned (w := (w.drewN nq).drew) hd hturn1 hne); obtain ⟨d0, d1, d2, d3, d4, d5, d6, d7, df⟩ := hd1.cells))
    clear hlook c0 c1 c2 c3 c4 c5 c6 c7 cf
    go_wp2
    go_ret2
  · exact ⟨ret_two (by simp [bErr]; omega) (by simp [bTorn]), hst.out w1 _ hturn1 hown1 hd1 (by simp [bStop]; omega)⟩
  · exact ⟨ret_two (by simp [bErr]; omega) (by simp [bTorn]; omega), hst.out w1 _ hturn1 hown1 hd1 (by simp [bStop]; omega)⟩
  · exact ⟨ret_two (by simp [bErr, h]) (by simp [bTorn]), hst.out w1 _ hturn1 hown1 hd1 (by simp [bStop]; omega)⟩
  · exact ⟨ret_two (by simp [bErr, h]) (by simp [bTorn, h]), hst.out w1 _ hturn1 hown1 hd1 (by simp [bStop]; omega)⟩
  all_goals
    have hw : wrap64 (stop - 1) = stop - 1 := IntWalk.wrap64_in _ ⟨by omega, by have := HS.out; omega⟩
    have hbs : bStop stop = stop - 1 := by simp [bStop]; omega
    refine ⟨ret_two (by simp [bErr]; try omega) (by simp [bTorn]; try omega), by rw [hw, hbs]; exact (hd1.set2 _).set7 _, (hown1.setCell hne.symm _).setCell hne.symm _, ?_⟩
    exact (((((Kept.refl _ w).drewN nq).drew).turned hturn1 (fun _ => Or.inr rfl)).setCell (fun _ => Or.inl rfl) _).setCell (fun _ => Or.inl rfl) _

theorem begin_any (d : Nat) (cap used ops : Int) (nb db : Nat) (pv : Value) (fb : Nat) (stop : Int) (n : Nat) (F : DataW Unit) (w : World)
    (hd : DiskAt w d cap used ops nb db pv fb stop) (hF : w.ownsMap Try.prog 3 (plainElem Try.prog 3) fb n F) (ho : 0 ≤ ops) (ho' : ops < 1000000000) (hs : -1 ≤ stop) (HS : Hid (stop ≤ 9223372036854775807)) :
    ∃ c : Int, F.atKey (.int .i64 ops) (.lit (.int .i64 0)) = .lit (.int .i64 c) ∧
    Calls Try.prog 59 #[.pointer (some ⟨d, 0, none⟩)] w fun e w' => e = .returned (.tuple #[.int .i64 (bErr (Maps.has F (.int .i64 ops)) stop), .bool (bTorn (Maps.has F (.int .i64 ops)) c stop)]) ∧
      DiskAt w' d cap used (ops + 1) nb db pv fb (bStop stop) ∧ w'.ownsMap Try.prog 3 (plainElem Try.prog 3) fb n (F.del (.int .i64 ops)) ∧ Kept (fun k => k = d ∨ k = fb) w w' := by
  have hkey : keyOf Try.prog 3 (.int .i64 ops) = some (.int .i64 ops) := keyOf_int_mk Try.underlying3 (WalkArith.wf_i64 (by omega))
  have hz0 : plainElem (H := Unit) Try.prog 3 (.int .i64 0) = some (.lit (.int .i64 0), []) := plainElem_int Try.underlying3 (by decide)
  have look : ∀ k : Nat, ∃ c : Int, (Instr.lookup 56 (.map (some fb)) (.int .i64 ops) true).run Try.prog (w.drewN k) = .ok (.tuple #[.int .i64 c, .bool (Maps.has F (.int .i64 ops))]) (w.drewN k) ∧ F.atKey (.int .i64 ops) (.lit (.int .i64 0)) = .lit (.int .i64 c) := fun k => by
    obtain ⟨v, ps, hrun, hv⟩ := World.ownsMap.look_ok (w := w.drewN k) hF law3 Try.underlying56 (Try.zeroValue3 _) hz0 hkey
    obtain ⟨c, rfl, hc, _⟩ := plainElem_int_inv Try.underlying3 hv
    exact ⟨c, hrun, by simpa using congrArg Prod.fst hc⟩
  obtain ⟨c, _, hat⟩ := look 0
  refine ⟨c, hat, begin_core d cap used ops nb db pv fb stop n F w hd hF ho ho' hs HS c _ fun k => ?_⟩
  obtain ⟨c', hr, hat'⟩ := look k
  rw [hat] at hat'
  cases hat'
  exact hr

end Go.Proofs.Ytipakfdebccchaa

/- The library contracts (strings.Clone, slices.Sort at strings, strings.HasPrefix, bytes.Clone, maps.Clone) at this program: one application each. -/
namespace Go.Proofs
open Go.Shelf
def Try.laysM316_ren : Go.Shelf.Ren := ⟨fun | 316 => 75 | n => n, fun | 9 => 9 | 3 => 3 | 4 => 4 | 37 => 31 | 0 => 0 | 127 => 125 | 5 => 5 | n => n, fun | n => n⟩
theorem Try.laysM316 : Go.Proofs.LaysM.n316 Try.prog Try.laysM316_ren := {
  mixed := by kernel_rfl
  f316 := Try.func75.trans (congrArg some (by kernel_rfl))
  t0 := Try.underlying0
  a0 := Try.isAgg0
  z0 := Try.sizeOf0
  v0 := Try.zeroValue0
  t3 := Try.underlying3
  a3 := Try.isAgg3
  z3 := Try.sizeOf3
  v3 := Try.zeroValue3
  t4 := Try.underlying4
  a4 := Try.isAgg4
  z4 := Try.sizeOf4
  v4 := Try.zeroValue4
  t9 := Try.underlying9
  a9 := Try.isAgg9
  z9 := Try.sizeOf9
  v9 := Try.zeroValue9
  t37 := Try.underlying31
  a37 := Try.isAgg31
  z37 := Try.sizeOf31
  v37 := Try.zeroValue31
  t127 := Try.underlying125
  a127 := Try.isAgg125
  z127 := Try.sizeOf125
  v127 := Try.zeroValue125
  t5 := Try.underlying5
  a5 := Try.isAgg5
  z5 := Try.sizeOf5
  v5 := Try.zeroValue5
  i0 := by kernel_rfl
  i3 := by kernel_rfl
  i4 := by kernel_rfl
  i5 := by kernel_rfl
  i9 := by kernel_rfl
  i37 := by kernel_rfl
  i127 := by kernel_rfl }
open Go.RowKit in
theorem Try.stringslite_Clone (s : ByteArray) (w : World) (hlim : s.size ≤ 281474976710656) :
    Calls Try.prog 75 #[.string s] w fun e w' => e = .returned (.string s) ∧ Below w.heap.size w w' := Any.stringslite_Clone Try.laysM316 s w hlim
def Try.lays190_ren : Go.Shelf.Ren := ⟨fun | 190 => 65 | 125 => 73 | 258 => 72 | 128 => 85 | 129 => 86 | 302 => 76 | 303 => 77 | 304 => 78 | 305 => 79 | 306 => 80 | 307 => 81 | 308 => 82 | 309 => 83 | 310 => 84 | 333 => 87 | 329 => 88 | 330 => 89 | 334 => 90 | 335 => 91 | 336 => 92 | 344 => 93 | n => n, fun | 31 => 45 | 9 => 9 | 3 => 3 | 46 => 112 | 0 => 0 | 51 => 122 | 53 => 124 | 4 => 4 | 183 => 116 | 182 => 115 | 131 => 77 | 5 => 5 | 218 => 126 | 222 => 130 | 228 => 132 | 229 => 133 | n => n, fun | n => n⟩
theorem Try.lays190 : Go.Proofs.Lays.n190 Try.prog Try.lays190_ren := {
  mixed := by kernel_rfl
  f125 := Try.func73.trans (congrArg some (by kernel_rfl))
  f128 := Try.func85.trans (congrArg some (by kernel_rfl))
  f129 := Try.func86.trans (congrArg some (by kernel_rfl))
  f190 := Try.func65.trans (congrArg some (by kernel_rfl))
  f258 := Try.func72.trans (congrArg some (by kernel_rfl))
  f302 := Try.func76.trans (congrArg some (by kernel_rfl))
  f303 := Try.func77.trans (congrArg some (by kernel_rfl))
  f304 := Try.func78.trans (congrArg some (by kernel_rfl))
  f305 := Try.func79.trans (congrArg some (by kernel_rfl))
  f306 := Try.func80.trans (congrArg some (by kernel_rfl))
  f307 := Try.func81.trans (congrArg some (by kernel_rfl))
  f308 := Try.func82.trans (congrArg some (by kernel_rfl))
  f309 := Try.func83.trans (congrArg some (by kernel_rfl))
  f310 := Try.func84.trans (congrArg some (by kernel_rfl))
  f329 := Try.func88.trans (congrArg some (by kernel_rfl))
  f330 := Try.func89.trans (congrArg some (by kernel_rfl))
  f333 := Try.func87.trans (congrArg some (by kernel_rfl))
  f334 := Try.func90.trans (congrArg some (by kernel_rfl))
  f335 := Try.func91.trans (congrArg some (by kernel_rfl))
  f336 := Try.func92.trans (congrArg some (by kernel_rfl))
  f344 := Try.func93.trans (congrArg some (by kernel_rfl))
  t0 := Try.underlying0
  a0 := Try.isAgg0
  z0 := Try.sizeOf0
  v0 := Try.zeroValue0
  t3 := Try.underlying3
  a3 := Try.isAgg3
  z3 := Try.sizeOf3
  v3 := Try.zeroValue3
  t4 := Try.underlying4
  a4 := Try.isAgg4
  z4 := Try.sizeOf4
  v4 := Try.zeroValue4
  t5 := Try.underlying5
  a5 := Try.isAgg5
  z5 := Try.sizeOf5
  v5 := Try.zeroValue5
  t9 := Try.underlying9
  a9 := Try.isAgg9
  z9 := Try.sizeOf9
  v9 := Try.zeroValue9
  t31 := Try.underlying45
  a31 := Try.isAgg45
  z31 := Try.sizeOf45
  v31 := Try.zeroValue45
  t46 := Try.underlying112
  a46 := Try.isAgg112
  z46 := Try.sizeOf112
  v46 := Try.zeroValue112
  t51 := Try.underlying122
  a51 := Try.isAgg122
  z51 := Try.sizeOf122
  v51 := Try.zeroValue122
  t53 := Try.underlying124
  a53 := Try.isAgg124
  z53 := Try.sizeOf124
  v53 := Try.zeroValue124
  t131 := Try.underlying77
  a131 := Try.isAgg77
  z131 := Try.sizeOf77
  v131 := Try.zeroValue77
  t182 := Try.underlying115
  a182 := Try.isAgg115
  z182 := Try.sizeOf115
  v182 := Try.zeroValue115
  t183 := Try.underlying116
  a183 := Try.isAgg116
  z183 := Try.sizeOf116
  v183 := Try.zeroValue116
  t218 := Try.underlying126
  a218 := Try.isAgg126
  z218 := Try.sizeOf126
  v218 := Try.zeroValue126
  t222 := Try.underlying130
  a222 := Try.isAgg130
  z222 := Try.sizeOf130
  v222 := Try.zeroValue130
  t228 := Try.underlying132
  a228 := Try.isAgg132
  z228 := Try.sizeOf132
  v228 := Try.zeroValue132
  t229 := Try.underlying133
  a229 := Try.isAgg133
  z229 := Try.sizeOf133
  v229 := Try.zeroValue133 }
open Go.Sort Go.RowKit in
theorem Try.slices_Sort_string (blk off cap : Nat) (ss : List (List UInt8)) (w : World) (hH : Holds encStr w blk off ss.toArray) (hblk : blk < w.heap.size) (hsz : ss.length < 4611686018427387904) :
    Calls Try.prog 65 #[.slice (some ⟨blk, off, none⟩) ss.length cap] w fun e w' =>
      e = .returned (.tuple #[]) ∧ ∃ n os, w' = grow (putRow encStr (Sort.ahead w n) blk off (ss.mergeSort fun x y => decide (x ≤ y)).toArray) os := Any.slices_Sort_string Try.lays190 blk off cap ss w hH hblk hsz
def Try.lays206_ren : Go.Shelf.Ren := ⟨fun | 206 => 71 | n => n, fun | 9 => 9 | 4 => 4 | 3 => 3 | n => n, fun | n => n⟩
theorem Try.lays206 : Go.Proofs.Lays.n206 Try.prog Try.lays206_ren := {
  mixed := by kernel_rfl
  f206 := Try.func71.trans (congrArg some (by kernel_rfl))
  t3 := Try.underlying3
  a3 := Try.isAgg3
  z3 := Try.sizeOf3
  v3 := Try.zeroValue3
  t4 := Try.underlying4
  a4 := Try.isAgg4
  z4 := Try.sizeOf4
  v4 := Try.zeroValue4
  t9 := Try.underlying9
  a9 := Try.isAgg9
  z9 := Try.sizeOf9
  v9 := Try.zeroValue9 }
open Go.RowKit Go.Lib in
theorem Try.stringslite_HasPrefix (s p : ByteArray) (w : World) :
    Calls Try.prog 71 #[.string s, .string p] w fun e w' => e = .returned (.bool (Lib.hasPrefix s.data.toList p.data.toList)) ∧ w' = w := Any.stringslite_HasPrefix Try.lays206 s p w
def Try.lays99_ren : Go.Shelf.Ren := ⟨fun | 99 => 64 | 206 => 71 | n => n, fun | 9 => 9 | 4 => 4 | 3 => 3 | n => n, fun | n => n⟩
theorem Try.lays99 : Go.Proofs.Lays.n99 Try.prog Try.lays99_ren := {
  mixed := by kernel_rfl
  f99 := Try.func64.trans (congrArg some (by kernel_rfl))
  f206 := Try.func71.trans (congrArg some (by kernel_rfl))
  t3 := Try.underlying3
  a3 := Try.isAgg3
  z3 := Try.sizeOf3
  v3 := Try.zeroValue3
  t4 := Try.underlying4
  a4 := Try.isAgg4
  z4 := Try.sizeOf4
  v4 := Try.zeroValue4
  t9 := Try.underlying9
  a9 := Try.isAgg9
  z9 := Try.sizeOf9
  v9 := Try.zeroValue9 }
open Go.RowKit Go.Lib in
theorem Try.strings_HasPrefix (s p : ByteArray) (w : World) :
    Calls Try.prog 64 #[.string s, .string p] w fun e w' => e = .returned (.bool (Lib.hasPrefix s.data.toList p.data.toList)) ∧ w' = w := Any.strings_HasPrefix Try.lays99 s p w
open Go.RowKit Go.Sort in
theorem Try.slices_Sort_string_none (p : Option Addr) (cap : Nat) (w : World) :
    Calls Try.prog 65 #[.slice p 0 cap] w fun e w' => e = .returned (.tuple #[]) ∧ w' = w := Any.slices_Sort_string_none Try.lays190 p cap w
def Try.laysSlK4_ren : Go.Shelf.Ren := ⟨fun | 4 => 42 | n => n, fun | 22 => 31 | 4 => 4 | 5 => 5 | n => n, fun | n => n⟩
theorem Try.laysSlK4 : Go.Proofs.SlLaysK.n4 Try.prog Try.laysSlK4_ren := {
  mixed := by kernel_rfl
  f4 := Try.func42.trans (congrArg some (by kernel_rfl))
  t4 := Try.underlying4
  a4 := Try.isAgg4
  z4 := Try.sizeOf4
  v4 := Try.zeroValue4
  t22 := Try.underlying31
  a22 := Try.isAgg31
  z22 := Try.sizeOf31
  v22 := Try.zeroValue31
  t5 := Try.underlying5
  i5 := by kernel_rfl }
open Go.RowKit Go.Lib in
theorem Try.bytes_Clone_at (a : Addr) (n c : Nat) (xs : List Int) (w : World) (hx : xs.length = n) (hbig : n ≤ 140737488355328) (hc : ∀ i, i < n → w.cell? (a.add i) = some (.int .u8 (xs.getD i 0))) :
    Calls Try.prog 42 #[.slice (some a) n c] w fun e w' => ∃ v', e = .returned v' ∧ w'.ownsRow w.heap.size 5 1 v' n (xs.map (Value.int .u8)) ∧ v' ≠ .slice none 0 0 ∧ Below w.heap.size w w' := Any.bytes_Clone_at Try.laysSlK4 a n c xs w hx hbig hc
open Go.RowKit Go.Lib in
theorem Try.bytes_Clone_nil (n c : Nat) (w : World) :
    Calls Try.prog 42 #[.slice none n c] w fun e w' => e = .returned (.slice none 0 0) ∧ w' = w := Any.bytes_Clone_nil Try.laysSlK4 n c w
def Try.cloneM_ren : Go.Shelf.Ren := ⟨fun | 5 => 40 | 7 => 66 | n => n, fun | 23 => 55 | 25 => 9 | 3 => 70 | 4 => 4 | 20 => 20 | n => n, fun | n => n⟩
theorem Try.cloneM : Go.Proofs.SlLaysW.n5 Try.prog Try.cloneM_ren := {
  mixed := by kernel_rfl
  f5 := ⟨Try.f40.name, by decide, Try.func40.trans (congrArg some (by kernel_rfl))⟩
  f7 := Try.func66.trans (congrArg some (by kernel_rfl))
  t4 := Try.underlying4
  a4 := Try.isAgg4
  z4 := Try.sizeOf4
  v4 := Try.zeroValue4
  t20 := Try.underlying20
  a20 := Try.isAgg20
  z20 := Try.sizeOf20
  v20 := Try.zeroValue20
  t23 := Try.underlying55
  a23 := Try.isAgg55
  z23 := Try.sizeOf55
  v23 := Try.zeroValue55 }
open Go.RowKit Go.Maps in
theorem Try.maps_Clone_owns {H : Type} (k : TypeId) (R : Value → Option (DataW H × List MemPlace)) (b n : Nat) (D : DataW H) (w : World) (hown : w.ownsMap Try.prog k R b n D) :
    Calls Try.prog 40 #[.map (some b)] w fun e w' => e = .returned (.map (some w.heap.size)) ∧ w'.ownsMap Try.prog k R w.heap.size n D ∧ w'.ownsMap Try.prog k R b n D ∧ Below w.heap.size w w' := AnyW.maps_Clone_owns Try.cloneM k R b n D w hown
end Go.Proofs
