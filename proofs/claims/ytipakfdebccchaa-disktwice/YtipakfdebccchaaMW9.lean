/- Texts that belong together. -/
import Derived.Test.YtipakfdebccchaaMW8
import Derived.Maps.RangeWalk
import Derived.Sort.KeysCollected
import Derived.Sort.OwnSorted
/- A directory's names that begin so, rising. -/
namespace Go.Proofs.Ytipakfdebccchaa
open Go.RowKit Go.Maps Go.Sort
open Go.WideMaps Go.WideElems

theorem info9 : (Try.prog.info? 9).map (fun i => (i.zero, i.size, i.bytes)) = some (some (.string ⟨#[]⟩), 1, 16) := by kernel_rfl

theorem fileElem_shape {v : Value} {y : DataW Unit × List MemPlace} (h : fileElem v = some y) : ∃ c, v = .pointer c := by
  unfold fileElem at h
  split at h
  · exact ⟨_, rfl⟩
  · exact ⟨_, rfl⟩
  · cases h

/-- The names of a directory that begin with p, rising. -/
def risen (D : DataW Unit) (p : List UInt8) : List (List UInt8) := ((strKeys D).filter fun x => Lib.hasPrefix x p).mergeSort leB

set_option maxRecDepth 100000 in
set_option maxHeartbeats 1000000 in
theorem rising_any (b n : Nat) (p : ByteArray) (D0 : DataW Unit) (w : World) (hown : w.ownsMap Try.prog 9 fileElem b n D0) (hn : n < 1000000000) :
    Calls Try.prog 39 #[.map (some b), .string p] w fun e w' => ∃ v, e = .returned v ∧
      w'.ownsRow w.heap.size 9 1 v (risen D0 p.data.toList).length ((risen D0 p.data.toList).map encStr) ∧ Below w.heap.size w w' := by
  obtain ⟨i0, hi, hz0, hz1, hz2⟩ := info_parts info9
  have hbl := hown.lt
  have hsz := hown.size_le
  go_enter Try.func39, Try.ntmps39
  go_wp2_with (at_range; refine wpList_range_own _ rfl _ 55 rfl 9 70 law9 Try.underlying55 _ b n _ rfl hown ?_; intro w0 hrg0 hg0 hs0)
  go_frame
  go_loopw [5] (fun v wr => ∃ (left : Lit → Bool) (cnt : Nat) (ss : List (List UInt8)), wr.ranges Try.prog 9 fileElem b w.heap.size n D0 left cnt ∧ ss.length + cnt ≤ Maps.size D0 ∧
      wr.ownsRow w.heap.size 9 1 v (ss.filter fun x => Lib.hasPrefix x p.data.toList).length ((ss.filter fun x => Lib.hasPrefix x p.data.toList).map encStr) ∧ Collected D0 left ss ∧ Below w.heap.size w wr)
    (fun _ wr => wr.rangeLeft b w.heap.size)
  case atStart =>
    exact ⟨_, _, [], hrg0, by simp, World.ownsRow_nil _ _ _ _, Collected.start D0, (Below.refl _ _).grown hg0 (Nat.le_refl _) (fun j hj => by cases hj)⟩
  case round =>
    obtain ⟨left, cnt, ss, hrg, hcs, hrow, hC, hnx⟩ := hrel
    have hfl : (ss.filter fun x => Lib.hasPrefix x p.data.toList).length ≤ ss.length := List.length_filter_le _ _
    go_wp2_with (at_next; refine wpList_next_ranges _ rfl _ rfl 9 law9 fileElem encStr Value.pointer (fun key kl hk => by obtain ⟨x, hx, _⟩ := Maps.keyOf_str Try.underlying9 hk; exact ⟨x, hx⟩) (fun v y hv => fileElem_shape hv) b w.heap.size n _ _ _ rfl hrg ?_ ?_)
    · intro hc0 hl0
      have hperm : ((ss.filter fun x => Lib.hasPrefix x p.data.toList).mergeSort leB) = risen D0 p.data.toList := mergeSort_of_perm ((hC.perm hown law9 Try.underlying9 hl0).filter _)
      have hlen : (risen D0 p.data.toList).length = (ss.filter fun x => Lib.hasPrefix x p.data.toList).length := by rw [← hperm]; simp
      have HP : Hid (((ss.filter fun x => Lib.hasPrefix x p.data.toList).mergeSort leB) = risen D0 p.data.toList) := hperm
      have HL : Hid ((risen D0 p.data.toList).length = (ss.filter fun x => Lib.hasPrefix x p.data.toList).length) := hlen
      clear hperm hlen
      generalize (ss.filter fun x => Lib.hasPrefix x p.data.toList) = ts at *
      rcases hrow.2 with ⟨rfl, hnil⟩ | ⟨g, cap, cur, rfl, hbase, hb, h1, h2, h3, h4⟩
      · have ht : ts = [] := List.eq_nil_of_length_eq_zero hnil
        subst ht
        go_wp2_with (go_at_call 65; refine (Try.slices_Sort_string_none _ _ _).mono ?_; rintro e w' ⟨rfl, rfl⟩)
        go_ret
        have hr : risen D0 p.data.toList = [] := List.eq_nil_of_length_eq_zero HL.out
        refine ⟨_, rfl, ?_, hnx⟩
        rw [hr]
        exact World.ownsRow_nil _ _ _ _
      · have hH : Holds encStr wr g 0 ts.toArray := holds_of_block hb (by simpa using h4)
        have hgl : g < wr.heap.size := (Array.getElem?_eq_some_iff.1 hb).1
        have hc := Try.slices_Sort_string g 0 cap ts wr hH hgl (by omega)
        clear hH
        go_wp2_with (go_at_call 65; refine hc.mono ?_; rintro e w' ⟨rfl, nn, os, rfl⟩)
        go_ret
        refine ⟨_, rfl, ?_, hnx.grown (grownBy_sorted _) hnx.size (fun j hj => by cases hj; exact hbase)⟩
        have hr := ownsRow_sorted (os := os) (n := nn) (e := 9) (ss := ts) (ts := ts.mergeSort leB) (by simp) hbase hb h1 h2 h3
        rw [HL.out, ← HP.out]
        exact hr
    · intro x c kl yd yp w2 cnt2 hkey hlk hv hat hrg2 hlt hg2 hs2 hen
      obtain ⟨x', ex, rfl, _⟩ := Maps.keyOf_str Try.underlying9 hkey
      obtain rfl : x = x' := encStr_inj ex
      have hrow2 := hrow.kept hg2 (Or.inr (row_ne_iter hrow hrg).symm)
      have hC2 := hC.step hlk hat
      have hw2 : w.heap.size ≤ w2.heap.size := by have := hnx.size; omega
      clear hs2 hv ex hkey
      have HLT : Hid (cnt2 < cnt) := hlt
      cases hpre : Lib.hasPrefix x p.data.toList
      · have HF : Hid ((ss ++ [x]).filter (fun x => Lib.hasPrefix x p.data.toList) = ss.filter fun x => Lib.hasPrefix x p.data.toList) := by show _ = _; rw [List.filter_append]; simp [hpre]
        go_wp2_with (go_at_call 64; refine (Try.strings_HasPrefix _ _ _).mono ?_; rintro e w2 ⟨rfl, rfl⟩)
        go_roundw
        case rel => exact ⟨_, cnt2, ss ++ [x], hrg2, by simp; omega, by rw [HF.out]; exact hrow2, hC2, hnx.grown hg2 hnx.size (fun j hj => by cases hj; exact Nat.le_refl _)⟩
        case measure => rw [hrg2.left_eq, hrg.left_eq]; exact HLT.out
      · have HF : Hid ((ss ++ [x]).filter (fun x => Lib.hasPrefix x p.data.toList) = (ss.filter fun x => Lib.hasPrefix x p.data.toList) ++ [x]) := by show _ = _; rw [List.filter_append]; simp [hpre]
        go_wp2_with (first | (go_at_call 64; refine (Try.strings_HasPrefix _ _ _).mono ?_; rintro e w2 ⟨rfl, rfl⟩) | (at_builtin; refine wpList_append_own _ rfl _ _ 45 rfl w.heap.size 9 i0 (.string ⟨#[]⟩) 1 16 Try.underlying45 hi hz0 hz1 hz2 rfl (by decide) _ _ _ rfl (hrow2.alloc _) ⟨w2.heap.size, 0, none⟩ 1 1 [encStr x] rfl rfl (cell_one_new _ _ _) (by simp [Value.oneCell', encStr]) (by unfold maxLen at *; omega) (by omega) (by simp; omega) ?_; intro v' w3 hown' hg3 hnil3; go_frame))
        have hrg3 := (hrg2.alloc _).kept hg3 (row_ne_low hrow2 hbl) (row_ne_iter hrow2 hrg2)
        go_roundw
        case rel =>
          refine ⟨_, cnt2, ss ++ [x], hrg3, by simp; omega, by rw [HF.out]; simpa using hown', hC2, ?_⟩
          exact ((hnx.grown hg2 hnx.size (fun j hj => by cases hj; exact Nat.le_refl _)).alloc hw2 _).grown hg3 (by simp; omega) (fun j hj => (hrow2.lt j hj).1)
        case measure => rw [hrg3.left_eq, hrg.left_eq]; exact HLT.out

end Go.Proofs.Ytipakfdebccchaa

/- The numbers that say what a crash leaves. -/
namespace Go.Proofs.Ytipakfdebccchaa
open Go.RowKit Go.Maps Go.Sort
open Go.WideMaps Go.WideElems

/-- A slice of numbers. -/
structure CutsAt (w : World) (cv : Value) (cs : List Int) : Prop where
  shape : ∃ a c, cv = .slice a cs.length c
  cells : ∀ j x, cs[j]? = some x → ∃ b o l c, cv = .slice (some ⟨b, o, none⟩) l c ∧ w.cell? ⟨b, o + j, none⟩ = some (.int .i64 x)

/-- The number that the cuts have at i, brought to 0 to most. -/
def cutN (cs : List Int) (i most : Nat) : Nat := match cs[i]? with
  | none => 0
  | some x => (x % ((most : Int) + 1)).toNat

theorem cutN_le (cs : List Int) (i most : Nat) : cutN cs i most ≤ most := by
  unfold cutN
  split
  · omega
  · rename_i x _
    have h1 := Int.emod_nonneg x (show (most : Int) + 1 ≠ 0 by omega)
    have h2 := Int.emod_lt_of_pos x (show 0 < (most : Int) + 1 by omega)
    omega

theorem tmod_twice (x n : Int) (hn : 0 < n) : (x.tmod n + n).tmod n = x % n := by
  have h2 := Int.lt_tmod_of_pos x hn
  rw [Int.tmod_eq_emod_of_nonneg (show 0 ≤ x.tmod n + n by omega)]
  have h3 : x.tmod n + n = x + n * (1 - x.tdiv n) := by
    rw [Int.mul_sub, Int.tmod_def]
    omega
  rw [h3, Int.add_mul_emod_self_left]

set_option maxRecDepth 100000 in
set_option maxHeartbeats 1000000 in
theorem cut_any (w : World) (cv : Value) (cs : List Int) (h : CutsAt w cv cs) (i most : Nat) (iI mI : Int) (hi : iI = i) (hm : mI = most) (hmb : most ≤ 1000000000000) :
    Calls Try.prog 38 #[cv, .int .i64 iI, .int .i64 mI] w fun e w' => e = .returned (.int .i64 (cutN cs i most)) ∧ w' = w := by
  subst hi hm
  obtain ⟨a, c, rfl⟩ := h.shape
  by_cases hlt : i < cs.length
  · have hcs : cs[i]? = some cs[i] := List.getElem?_eq_getElem hlt
    obtain ⟨b, o, l, c', e, hcell⟩ := h.cells i _ hcs
    cases e
    generalize cs[i] = x at *
    have h0 : (i : Int) < (cs.length : Int) := by omega
    have t1 := Int.lt_tmod_of_pos x (show (0 : Int) < (most : Int) + 1 by omega)
    have t2 := Int.tmod_lt_of_pos x (show (0 : Int) < (most : Int) + 1 by omega)
    go_enter Try.func38, Try.ntmps38
    go_wp2
    go_ret
    have hcut : ((cutN cs i most : Nat) : Int) = (x.tmod ((most : Int) + 1) + ((most : Int) + 1)) % ((most : Int) + 1) := by
      have e1 := tmod_twice x ((most : Int) + 1) (by omega)
      rw [Int.tmod_eq_emod_of_nonneg (by omega)] at e1
      rw [e1]
      have h1 := Int.emod_nonneg x (show (most : Int) + 1 ≠ 0 by omega)
      unfold cutN
      rw [hcs]
      simp only
      omega
    exact ⟨by rw [hcut]; rfl, rfl⟩
  · have HN : Hid (cutN cs i most = 0) := by show _ = _; unfold cutN; rw [List.getElem?_eq_none (by omega)]
    go_enter Try.func38, Try.ntmps38
    go_wp2
    go_ret
    exact ⟨by rw [HN.out]; rfl, rfl⟩

end Go.Proofs.Ytipakfdebccchaa

/- What a crash leaves. -/
namespace Go.Proofs.Ytipakfdebccchaa
open Go.RowKit Go.Maps Go.Sort
open Go.WideMaps Go.WideElems

/-- A file's slice, its bytes, and how many of them are durable. -/
structure FileV where
  v : Value
  bs : List UInt8
  dur : Nat

structure Files (w : World) (d : Nat) (s : St) (L : List Nat) (fs : Nat → FileV) : Prop where
  at_ : ∀ f ∈ L, FileAt w f (fs f).v (fs f).bs (fs f).dur
  le : ∀ f ∈ L, (fs f).dur ≤ (fs f).bs.length
  rows : ∀ f ∈ L, ∀ g ∈ L, f ≠ g → ∀ k, (fs f).v.ownBlock = some k → (fs g).v.ownBlock ≠ some k
  own : ∀ f ∈ L, ∀ k, (fs f).v.ownBlock = some k → ¬ s.own d k

def cutV (v : Value) (k : Nat) : Value := match v with
  | .slice a _ c => .slice a k c
  | v => v
def FileV.cut (x : FileV) (k : Nat) : FileV := ⟨cutV x.v k, x.bs.take k, k⟩

theorem ownBlock_cutV (v : Value) (k : Nat) : (cutV v k).ownBlock = v.ownBlock := by
  cases v <;> try rfl
  rename_i a n c
  cases a <;> rfl

theorem ownsRow_cut {w : World} {base : Nat} {e : TypeId} {v : Value} {n : Nat} {xs : List Value} (h : w.ownsRow base e 1 v n xs) {k : Nat} (hk : k ≤ n) : w.ownsRow base e 1 (cutV v k) k (xs.take k) := by
  refine ⟨by rw [List.length_take, h.1]; omega, ?_⟩
  rcases h.2 with ⟨rfl, h0⟩ | ⟨g, cap, cur, rfl, hg, hh, h1, h2, h3, h4⟩
  · have : k = 0 := by omega
    subst this
    exact Or.inl ⟨rfl, rfl⟩
  · refine Or.inr ⟨g, cap, cur, rfl, hg, hh, by omega, h2, h3, ?_⟩
    rw [← h4, List.take_take]
    congr 1
    omega

theorem byteVals_take (l : List UInt8) (k : Nat) : byteVals (l.take k) = (byteVals l).take k := by simp [byteVals, List.map_take]

/-- The file that a name names. -/
def fileOf (D : DataW Unit) (x : List UInt8) : Nat := match D.atKey (.string x) .nil with
  | .lit (.int _ b) => b.toNat
  | _ => 0

def FileV.crash (x : FileV) (cs : List Int) (k : Nat) : FileV := x.cut (x.dur + cutN cs (k + 1) (x.bs.length - x.dur))

/-- The files, when the first k names have been gone through. -/
def crashTo (D : DataW Unit) (cs : List Int) (ts : List (List UInt8)) (fs : Nat → FileV) : Nat → Nat → FileV
  | 0 => fs
  | k + 1 => fun f => if f = fileOf D (ts.getD k []) then (crashTo D cs ts fs k f).crash cs k else crashTo D cs ts fs k f
/-- How many bytes they have. -/
def usedTo (D : DataW Unit) (cs : List Int) (ts : List (List UInt8)) (fs : Nat → FileV) : Nat → Int
  | 0 => 0
  | k + 1 => usedTo D cs ts fs k + (crashTo D cs ts fs (k + 1) (fileOf D (ts.getD k []))).dur

theorem crash_le {x : FileV} (h : x.dur ≤ x.bs.length) (cs : List Int) (k : Nat) : (x.crash cs k).dur ≤ x.bs.length ∧ (x.crash cs k).dur ≤ (x.crash cs k).bs.length := by
  have := cutN_le cs (k + 1) (x.bs.length - x.dur)
  simp only [FileV.crash, FileV.cut, List.length_take]
  omega

/-- A map is emptied. -/
theorem ownsMap_clear {H : Type} {w : World} {t k e : TypeId} {R : Value → Option (DataW H × List MemPlace)} {b n : Nat} {D : DataW H} (h : w.ownsMap Try.prog k R b n D) (ht : Try.prog.underlying t = some (.map k e)) (ty : TypeId) :
    ∃ w', (Builtin.clear_ #[t] ty #[.map (some b)]).run Try.prog w = .ok (.tuple #[]) w' ∧ w'.ownsMap Try.prog k R b n (.map []) ∧ w.mapTurned w' b := by
  obtain ⟨es, clock, hb, F, hs, rfl⟩ := h
  refine ⟨ChangeMaps.setBlock w b (.map #[] clock), ?_, ⟨#[], clock, ChangeMaps.heap_setBlock_same hb _, ⟨by simp, MapKept.stamped_empty clock, by simp⟩, by simp, rfl⟩, ⟨es, clock, #[], clock, hb, rfl⟩⟩
  simp [Builtin.clear_, run_underlying ht, MapKept.run_getObj_map hb, MapKept.run_setObj_map _ hb, Result.andThen, ChangeMaps.setBlock]

theorem wpList_clear_own {H : Type} (w : World) {ops : Array Oper} {rest : List Oper} {o : Oper} {a : Act} {Q : Exit → Act → World → Prop} (hg : o.guard = none) (m : Operand) (t : TypeId) (hop : o.op = Op.call { callee := Callee.builtin Builtin.clear, args := #[m], argTypes := #[t] })
    (k e : TypeId) (ht : Try.prog.underlying t = some (.map k e)) (R : Value → Option (DataW H × List MemPlace)) (b n : Nat) (D : DataW H) (hm : a.eval m = .map (some b)) (hown : w.ownsMap Try.prog k R b n D)
    (hK : ∀ w', w'.ownsMap Try.prog k R b n (.map []) → w.mapTurned w' b → wpList Try.prog ops Q rest (a.put o.dst (.tuple #[])) w') : wpList Try.prog ops Q (o :: rest) a w := by
  refine wpList_plain hg fun K' hK' => ?_
  obtain ⟨w', hrun, r1, r2⟩ := ownsMap_clear hown ht o.type
  unfold Oper.wp
  simp [execOp, hop, resolve, invoke, builtin, hm, hrun, Result.andThen]
  exact hK' _ _ (hK w' r1 r2)

/-- One file is cut, in the memory. -/
theorem Files.cut {w : World} {d : Nat} {s : St} {L : List Nat} {fs : Nat → FileV} (h : Files w d s L fs) {w' : World} {s' : St} {f k : Nat} (hf : f ∈ L) (hk : k ≤ (fs f).bs.length) (hd : ∀ g ∈ L, g ≠ d)
    (hown : ∀ i, s'.own d i → s.own d i) (hkept : Kept (fun i => i = d ∨ i = f) w w') (hat : w'.heap[f]? = some (.cells #[cutV (fs f).v k, .int .i64 k] 72)) (hrd : ∀ g ∈ L, (fs g).v.ownBlock ≠ some d) (hrf : ∀ g ∈ L, (fs g).v.ownBlock ≠ some f) :
    Files w' d s' L (fun g => if g = f then (fs g).cut k else fs g) := by
  refine ⟨fun g hg => ?_, fun g hg => ?_, fun g hg g' hg' hne i hi => ?_, fun g hg i hi hi' => ?_⟩
  · by_cases e : g = f
    · subst e
      simp only [if_pos]
      refine ⟨hat, ?_⟩
      have r := hkept.ownsRow (h.at_ g hg).row (fun i hi e => e.elim (fun e => hrd g hg (e ▸ hi)) (fun e => hrf g hg (e ▸ hi)))
      have r2 := ownsRow_cut r hk
      simp only [FileV.cut, byteVals_take]
      rw [List.length_take, Nat.min_eq_left hk]
      exact r2
    · simp only [if_neg e]
      exact (h.at_ g hg).kept hkept (fun e' => e'.elim (hd g hg) e) (fun i hi e' => e'.elim (fun e => hrd g hg (e ▸ hi)) (fun e => hrf g hg (e ▸ hi)))
  · by_cases e : g = f
    · subst e
      simp only [if_pos, FileV.cut, List.length_take]
      omega
    · simp only [if_neg e]
      exact h.le g hg
  · have e1 : (if g = f then (fs g).cut k else fs g).v.ownBlock = (fs g).v.ownBlock := by split <;> simp [FileV.cut, ownBlock_cutV]
    have e2 : (if g' = f then (fs g').cut k else fs g').v.ownBlock = (fs g').v.ownBlock := by split <;> simp [FileV.cut, ownBlock_cutV]
    rw [e1] at hi
    rw [e2]
    exact h.rows g hg g' hg' hne i hi
  · have e1 : (if g = f then (fs g).cut k else fs g).v.ownBlock = (fs g).v.ownBlock := by split <;> simp [FileV.cut, ownBlock_cutV]
    rw [e1] at hi
    exact h.own g hg i hi (hown i hi')

end Go.Proofs.Ytipakfdebccchaa
