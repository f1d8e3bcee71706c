/- Texts that belong together. -/
import Derived.Test.YtfckdleahljdeaaGreatDoorMRo
import Derived.Deep.RegionLaw
import Derived.Laws.StructEq
import Derived.Shelf.Lays
import Derived.Shelf.Strings.Builder1
import Derived.KernelRfl
import Derived.Test.YtfckdleahljdeaaGreatDoorSn
/- The set of some labels, by the document. -/
namespace Go.Proofs.YtfckdleahljdeaaGreatDoor
open Go.RowKit Go.Maps Go.Sort

def stepS (out : List Lb) (x : Lb) : List Lb := if (newR (out ++ [x])).2 = 0 then (newR (out ++ [x])).1 else out
def setL (ls : List Lb) : List Lb := (ls.take 80).foldl stepS []

theorem sized_iff {ls : List Lb} : Sized ls ↔ ∀ x ∈ ls, x.1.size ≤ maxLen ∧ x.2.size ≤ maxLen := by
  constructor
  · intro h x hx
    obtain ⟨i, hi, rfl⟩ := List.getElem_of_mem hx
    exact h i hi
  · intro h i hi
    exact h _ (List.getElem_mem hi)
theorem newR_sub {ls : List Lb} {x : Lb} (h : x ∈ (newR ls).1) : x ∈ ls := by
  unfold newR at h
  split at h
  · cases h
  · split at h
    · cases h
    · split at h
      · cases h
      · have := (foldN_inv ls).1.mem_iff.1 h
        exact (List.mem_filter.1 this).1
theorem newR_sized {ls : List Lb} (h : Sized ls) : Sized (newR ls).1 := sized_iff.2 fun x hx => sized_iff.1 h x (newR_sub hx)
theorem newR_length (ls : List Lb) : (newR ls).1.length ≤ 64 := by
  unfold newR
  split
  · simp
  · split
    · simp
    · split
      · simp
      · simp; omega
theorem stepS_take (ms : List Lb) (k : Nat) (hk : k < ms.length) : (ms.take (k + 1)).foldl stepS [] = stepS ((ms.take k).foldl stepS []) ms[k] := by
  rw [List.take_succ_eq_append_getElem hk, List.foldl_append]
  rfl

theorem step_append_labs (w : World) {ops : Array Oper} {o : Oper} {a : Act} {K : Act → World → Prop} {Q : Exit → Act → World → Prop} {E : Prop} (hgd : o.guard = none) (s x : Operand)
    (ho : o.op = .call { callee := .builtin .append, args := #[s, x], argTypes := #[25, 25] }) (base : Nat) (v : Value) (n : Nat) (xs : List Value) (hs : a.eval s = v) (hown : w.ownsRow base 49 2 v n xs)
    (xv : Value) (nw : List Lb) (hx : a.eval x = xv) (hb : LabsAt w xv nw) (hl : n + nw.length ≤ 1000000) (hbase : base ≤ w.heap.size)
    (h : ∀ c d w', w'.ownsRow base 49 2 (.slice c (n + nw.length) d) (n + nw.length) (xs ++ lbCells nw) → w.grownBy w' v.ownBlock → K (a.put o.dst (.slice c (n + nw.length) d)) w') :
    if Region.wanted o (yielded ops a.tmps) = true then Oper.wp Tryz.prog o a w K Q else E := by
  have hw : Region.wanted o (yielded ops a.tmps) = true := by simp [Region.wanted, hgd]
  rw [if_pos hw]
  obtain ⟨v', w', hr, h2, h3, h4⟩ := run_append_labs w o.type base v n xs hown xv nw hb hl hbase
  obtain ⟨c, d, rfl⟩ := slice_of_row h2
  unfold Oper.wp execOp
  simp only [ho, resolve, invoke, builtin, Sem.run_bind, Sem.run_pure, Result.andThen_ok, List.map_toArray, List.map_cons, List.map_nil, hs, hx, hr]
  exact h c d w' h2 h3

theorem step_call1 (w : World) {P : Program} {ops : Array Oper} {o : Oper} {a : Act} {K : Act → World → Prop} {Q : Exit → Act → World → Prop} {E : Prop} (hgd : o.guard = none) (f : Nat) (x : Operand) (t : TypeId)
    (ho : o.op = .call { callee := .value (.func f), args := #[x], argTypes := #[t] }) (v : Value) (hx : a.eval x = v) (he : ∀ args w, (callFunc f args).run P w = .ok (.enter f args) w) (R : Value → World → Prop)
    (hc : Calls P f #[v] w fun e w' => ∃ u, e = .returned u ∧ R u w') (h : ∀ u w', R u w' → K (a.put o.dst u) w') :
    if Region.wanted o (yielded ops a.tmps) = true then Oper.wp P o a w K Q else E := by
  have hw : Region.wanted o (yielded ops a.tmps) = true := by simp [Region.wanted, hgd]
  rw [if_pos hw]
  have hfn : a.eval (.func f) = .func (.func f) #[] #[] := rfl
  unfold Oper.wp execOp
  simp only [ho, resolve, hfn, hx, Sem.run_bind, List.map_toArray, List.map_cons, List.map_nil]
  simp only [Deferred.ofValue, invoke, Sem.run_pure, Result.andThen_ok, Array.append_empty, he]
  refine hc.mono ?_
  rintro e w' ⟨u, rfl, hu⟩
  exact h u w' hu

end Go.Proofs.YtfckdleahljdeaaGreatDoor

/- Are two sets alike? -/
namespace Go.Proofs.YtfckdleahljdeaaGreatDoor
open Go.RowKit

/-- Are two sets alike? -/
def eqLb (x y : Lb) : Bool := x.1.toList == y.1.toList && x.2.toList == y.2.toList
def eqL (ls ms : List Lb) : Bool := decide (ls = ms)
theorem toList_inj {a b : ByteArray} (h : a.toList = b.toList) : a = b := by
  rw [ByteArray.toList_eq, ByteArray.toList_eq] at h
  cases a
  cases b
  simp at h
  rw [h]
theorem eqLb_iff (x y : Lb) : eqLb x y = true ↔ x = y := by
  unfold eqLb
  rw [Bool.and_eq_true, beq_iff_eq, beq_iff_eq]
  constructor
  · rintro ⟨h1, h2⟩
    exact Prod.ext (toList_inj h1) (toList_inj h2)
  · rintro rfl
    exact ⟨rfl, rfl⟩

theorem lbFields : Tryz.prog.underlying 49 = some (.struct (Tryz.prog.fieldsOf 49)) := by kernel_rfl
theorem lbHeld : Tryz.prog.stoodInHeld 49 = false := by kernel_rfl
theorem lbGuard : Tryz.prog.eqGuardType Tryz.prog.depth 49 = false := by kernel_rfl
theorem eqRun (a b c d : ByteArray) (w : World) : (Op.equalIn 10000 49 (.agg #[.string a, .string b]) (.agg #[.string c, .string d])).run Tryz.prog w = .ok (a.toList == c.toList && b.toList == d.toList) w := by
  have u9 := Tryz.underlying9
  have a9 := Tryz.isAgg9
  have z9 := Tryz.sizeOf9
  rw [show (10000 : Nat) = 9999 + 1 from rfl, run_equalIn_agg w 9999 49 _ _ lbFields lbHeld]
  simp only [Program.fieldsOf, Tryz.underlying49]
  go_simp
  by_cases h1 : a.toList = c.toList <;> by_cases h2 : b.toList = d.toList <;> simp [h1, h2]

set_option maxRecDepth 100000 in
set_option maxHeartbeats 1500000 in
theorem alike_any (v u : Value) (ls ms : List Lb) (w : World) (h : LabsAt w v ls) (hm : LabsAt w u ms) (hl : ls.length ≤ 1000000) (hl2 : ms.length ≤ 1000000) :
    Calls Tryz.prog 13 #[v, u] w fun e w' => e = .returned (.bool (eqL ls ms)) ∧ ∃ q, w' = w.drewN q := by
  obtain ⟨a, c, rfl, -, -⟩ := id h
  obtain ⟨a2, c2, rfl, -, -⟩ := id hm
  have HC : Hid (LabsAt w (.slice a ls.length c) ls) := h
  have HM : Hid (LabsAt w (.slice a2 ms.length c2) ms) := hm
  clear h hm
  by_cases hle : ls.length = ms.length
  · go_enter Tryz.func13, Tryz.ntmps13
    have hlei : (ls.length : Int) = (ms.length : Int) := by omega
    go_wp2
    go_loopw [5] (fun i wr => ∃ k q : Nat, k ≤ ls.length ∧ i = .int .i64 k ∧ wr = w.drewN q ∧ Hid (∀ j (h1 : j < ls.length) (h2 : j < ms.length), j < k → ls[j] = ms[j])) (fun i _ => ls.length - (intOf i).toNat)
    case atStart => exact ⟨0, 0, Nat.zero_le _, rfl, rfl, fun _ _ _ h => absurd h (Nat.not_lt_zero _)⟩
    case round =>
      obtain ⟨k, q, hk, rfl, rfl, hall⟩ := hrel
      by_cases hlt : k < ls.length
      · have hlt2 : k < ms.length := by omega
        obtain ⟨b, o, rfl, hone⟩ := HC.out.one k hlt
        obtain ⟨b2, o2, rfl, hone2⟩ := HM.out.one k hlt2
        obtain ⟨x, hx⟩ : ∃ x, x = ls[k] := ⟨_, rfl⟩
        obtain ⟨y, hy⟩ : ∃ y, y = ms[k] := ⟨_, rfl⟩
        rw [← hx] at hone
        rw [← hy] at hone2
        obtain ⟨g0, g1⟩ := hone _ (below_drewN (Below.refl _ _) q)
        obtain ⟨e0, e1⟩ := hone2 _ (below_drewN (Below.refl _ _) q)
        have HX : Hid (ls[k] = x ∧ ms[k] = y) := ⟨hx.symm, hy.symm⟩
        have HQ : Hid (∀ m, (w.drewN q).drewN m = w.drewN (q + m)) := fun m => World.drewN_drewN _ _ _
        clear hone hone2 hx hy HC HM
        have hkl : (k : Int) < (ls.length : Int) := by omega
        have hkl2 : (k : Int) < (ms.length : Int) := by omega
        obtain ⟨x1, x2⟩ := x
        obtain ⟨y1, y2⟩ := y
        dsimp only at g0 g1 e0 e1
        generalize w.drewN q = wr at *
        have q3 := lbGuard
        have hrun := fun W => eqRun x1 x2 y1 y2 W
        have HEQ : Hid ((x1.toList == y1.toList && x2.toList == y2.toList) = eqLb (x1, x2) (y1, y2)) := rfl
        cases hxy : (x1.toList == y1.toList && x2.toList == y2.toList)
        · rw [hxy] at HEQ
          simp only [hxy] at hrun
          have HN : Hid (eqL ls ms = false) := by
            show _ = _
            unfold eqL
            rw [decide_eq_false_iff_not]
            intro e
            have h9 : ls[k] = ms[k] := by subst e; rfl
            rw [HX.out.1, HX.out.2] at h9
            have := (eqLb_iff _ _).2 h9
            rw [← HEQ.out] at this
            cases this
          go_wp2
          go_quiet (fail)
          go_wp2
          go_ret
          exact ⟨ret_bool HN.out.symm, q + nq, HQ.out nq⟩
        · rw [hxy] at HEQ
          simp only [hxy] at hrun
          have HN : Hid (∀ j (h1 : j < ls.length) (h2 : j < ms.length), j < k + 1 → ls[j] = ms[j]) := fun j h1 h2 hj => by
            rcases Nat.lt_succ_iff_lt_or_eq.1 hj with h9 | h9
            · exact hall.out j h1 h2 h9
            · subst h9
              rw [HX.out.1, HX.out.2]
              exact (eqLb_iff _ _).1 HEQ.out.symm
          go_wp2
          go_quiet (fail)
          go_wp2
          go_roundw
          case rel => exact ⟨k + 1, q + nq, by omega, by go_num, HQ.out nq, HN⟩
          case measure => simp [intOf]; omega
      · have HN : Hid (eqL ls ms = true) := by
          show _ = _
          unfold eqL
          rw [decide_eq_true_iff]
          exact List.ext_getElem hle fun j h1 h2 => hall.out j h1 h2 (by omega)
        clear hall HC HM
        go_wp2
        go_ret
        exact ⟨ret_bool HN.out.symm, q, rfl⟩
  · have HN : Hid (eqL ls ms = false) := by
      show _ = _
      unfold eqL
      rw [decide_eq_false_iff_not]
      intro e
      exact hle (by rw [e])
    have hlei : ¬ (ls.length : Int) = (ms.length : Int) := by omega
    clear HC HM
    go_enter Tryz.func13, Tryz.ntmps13
    go_wp2
    go_ret
    exact ⟨ret_bool HN.out.symm, 0, rfl⟩

end Go.Proofs.YtfckdleahljdeaaGreatDoor

/- strings.Builder's contracts at this program. -/
namespace Go.Proofs
open Go.Shelf
def Tryz.lays166_ren : Go.Shelf.Ren := ⟨fun | 166 => 31 | 240 => 50 | 276 => 81 | n => n, fun | 20 => 20 | 37 => 23 | 70 => 65 | 72 => 67 | 75 => 69 | 80 => 73 | 164 => 114 | n => n, fun | n => n⟩
theorem Tryz.lays166 : Go.Proofs.Lays.n166 Tryz.prog Tryz.lays166_ren := {
  mixed := by kernel_rfl
  f166 := Tryz.func31.trans (congrArg some (by kernel_rfl))
  f240 := Tryz.func50.trans (congrArg some (by kernel_rfl))
  f276 := Tryz.func81.trans (congrArg some (by kernel_rfl))
  t0 := Tryz.underlying0
  a0 := Tryz.isAgg0
  z0 := Tryz.sizeOf0
  v0 := Tryz.zeroValue0
  t3 := Tryz.underlying3
  a3 := Tryz.isAgg3
  z3 := Tryz.sizeOf3
  v3 := Tryz.zeroValue3
  t4 := Tryz.underlying4
  a4 := Tryz.isAgg4
  z4 := Tryz.sizeOf4
  v4 := Tryz.zeroValue4
  t9 := Tryz.underlying9
  a9 := Tryz.isAgg9
  z9 := Tryz.sizeOf9
  v9 := Tryz.zeroValue9
  t20 := Tryz.underlying20
  a20 := Tryz.isAgg20
  z20 := Tryz.sizeOf20
  v20 := Tryz.zeroValue20
  t37 := Tryz.underlying23
  a37 := Tryz.isAgg23
  z37 := Tryz.sizeOf23
  v37 := Tryz.zeroValue23
  t70 := Tryz.underlying65
  a70 := Tryz.isAgg65
  z70 := Tryz.sizeOf65
  v70 := Tryz.zeroValue65
  t72 := Tryz.underlying67
  a72 := Tryz.isAgg67
  z72 := Tryz.sizeOf67
  v72 := Tryz.zeroValue67
  t75 := Tryz.underlying69
  a75 := Tryz.isAgg69
  z75 := Tryz.sizeOf69
  v75 := Tryz.zeroValue69
  t164 := Tryz.underlying114
  a164 := Tryz.isAgg114
  z164 := Tryz.sizeOf114
  v164 := Tryz.zeroValue114 }
theorem Tryz.Builder_Extra_166 : Builder.Extra Tryz.prog Tryz.lays166_ren := {
  sizeBuilder := by kernel_rfl
  liesBuilder := by kernel_rfl
  t5 := Tryz.underlying5
  a5 := Tryz.isAgg5
  z5 := Tryz.sizeOf5
  v5 := Tryz.zeroValue5
  infoByte := by kernel_rfl
  cellsByte := by kernel_rfl
  sizeByte := by kernel_rfl
  neB5 := by decide }
def Tryz.lays167_ren : Go.Shelf.Ren := ⟨fun | 167 => 30 | 240 => 50 | 276 => 81 | n => n, fun | 20 => 20 | 37 => 23 | 70 => 65 | 72 => 67 | 75 => 69 | 80 => 73 | 164 => 114 | n => n, fun | n => n⟩
theorem Tryz.lays167 : Go.Proofs.Lays.n167 Tryz.prog Tryz.lays167_ren := {
  mixed := by kernel_rfl
  f167 := Tryz.func30.trans (congrArg some (by kernel_rfl))
  f240 := Tryz.func50.trans (congrArg some (by kernel_rfl))
  f276 := Tryz.func81.trans (congrArg some (by kernel_rfl))
  t0 := Tryz.underlying0
  a0 := Tryz.isAgg0
  z0 := Tryz.sizeOf0
  v0 := Tryz.zeroValue0
  t4 := Tryz.underlying4
  a4 := Tryz.isAgg4
  z4 := Tryz.sizeOf4
  v4 := Tryz.zeroValue4
  t5 := Tryz.underlying5
  a5 := Tryz.isAgg5
  z5 := Tryz.sizeOf5
  v5 := Tryz.zeroValue5
  t9 := Tryz.underlying9
  a9 := Tryz.isAgg9
  z9 := Tryz.sizeOf9
  v9 := Tryz.zeroValue9
  t20 := Tryz.underlying20
  a20 := Tryz.isAgg20
  z20 := Tryz.sizeOf20
  v20 := Tryz.zeroValue20
  t37 := Tryz.underlying23
  a37 := Tryz.isAgg23
  z37 := Tryz.sizeOf23
  v37 := Tryz.zeroValue23
  t70 := Tryz.underlying65
  a70 := Tryz.isAgg65
  z70 := Tryz.sizeOf65
  v70 := Tryz.zeroValue65
  t72 := Tryz.underlying67
  a72 := Tryz.isAgg67
  z72 := Tryz.sizeOf67
  v72 := Tryz.zeroValue67
  t75 := Tryz.underlying69
  a75 := Tryz.isAgg69
  z75 := Tryz.sizeOf69
  v75 := Tryz.zeroValue69
  t164 := Tryz.underlying114
  a164 := Tryz.isAgg114
  z164 := Tryz.sizeOf114
  v164 := Tryz.zeroValue114 }
theorem Tryz.Builder_Extra_167 : Builder.Extra Tryz.prog Tryz.lays167_ren := {
  sizeBuilder := by kernel_rfl
  liesBuilder := by kernel_rfl
  t5 := Tryz.underlying5
  a5 := Tryz.isAgg5
  z5 := Tryz.sizeOf5
  v5 := Tryz.zeroValue5
  infoByte := by kernel_rfl
  cellsByte := by kernel_rfl
  sizeByte := by kernel_rfl
  neB5 := by decide }
open Go.RowKit in
theorem Tryz.Builder_WriteByte (B b : Nat) (bs : List Value) (c : Int) (w : World) (h : Lib.IsBuilder 67 5 B b bs w) (hlen : bs.length + 1 ≤ 140737488355328) (hBw : B ≤ w.heap.size) :
    Calls Tryz.prog 30 #[.pointer (some ⟨b, 0, none⟩), .int .u8 c] w fun e w' => e = .returned .nilIface ∧ (Lib.BuilderAt 67 5 B b (.pointer (some ⟨b, 0, none⟩)) (bs ++ [.int .u8 c]) w' ∧ Below B w w') := Any.Builder_WriteByte Tryz.lays167 Tryz.Builder_Extra_167 B b bs c w h hlen hBw
open Go.RowKit in
theorem Tryz.Builder_WriteString (B b : Nat) (bs : List Value) (s : ByteArray) (w : World) (h : Lib.IsBuilder 67 5 B b bs w) (hlen : bs.length + s.size ≤ 140737488355328) (hBw : B ≤ w.heap.size) :
    Calls Tryz.prog 31 #[.pointer (some ⟨b, 0, none⟩), .string s] w fun e w' => e = .returned (.tuple #[.int .i64 s.size, .nilIface]) ∧ (Lib.BuilderAt 67 5 B b (.pointer (some ⟨b, 0, none⟩)) (bs ++ Lib.strCells s) w' ∧ Below B w w') := Any.Builder_WriteString Tryz.lays166 Tryz.Builder_Extra_166 B b bs s w h hlen hBw
end Go.Proofs
