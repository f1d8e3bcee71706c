/- A set's bytes: a text behind its length. -/
import Derived.Test.YtobkomfeojhhbaaDoorRo
import Derived.Lib.AppendStr
namespace Go.Proofs.YtobkomfeojhhbaaDoor
open Go.RowKit Go.Maps

def byteVals (bs : List UInt8) : List Value := bs.map fun b => .int .u8 b.toNat
theorem byteVals_append (a b : List UInt8) : byteVals (a ++ b) = byteVals a ++ byteVals b := by simp [byteVals]
theorem byteVals_length (a : List UInt8) : (byteVals a).length = a.length := by simp [byteVals]
theorem infoU8 : (Tryd.prog.info? 5).map (fun i => (i.zero, i.size, i.bytes)) = some (some (.int .u8 0), 1, 1) := by kernel_rfl
def Row (w : World) (base : Nat) (v : Value) (bs : List UInt8) : Prop := w.ownsRow base 5 1 v bs.length (byteVals bs)
def txt (s : ByteArray) : List UInt8 := [UInt8.ofNat (s.size / 256), UInt8.ofNat s.size] ++ s.data.toList
theorem txt_length (s : ByteArray) : (txt s).length = s.size + 2 := by
  unfold txt
  rw [List.length_append, Array.length_toList]
  show 2 + s.size = _
  omega

/-- Two steps behind one row. -/
theorem grown_two {w w1 w2 : World} {v v1 : Value} (h1 : w.grownBy w1 v.ownBlock) (hv : v1.ownBlock = v.ownBlock ∨ ∃ k, v1.ownBlock = some k ∧ w.heap.size ≤ k) (h2 : w1.grownBy w2 v1.ownBlock) : w.grownBy w2 v.ownBlock :=
  ⟨h2.os.trans h1.os, h2.tape.trans h1.tape, h2.output.trans h1.output, Nat.le_trans h1.size h2.size, fun i hi hne => (h2.block i (Nat.lt_of_lt_of_le hi h1.size) (fun e => by
    rcases hv with e1 | ⟨k, e1, hk⟩
    · exact hne (e.trans e1)
    · rw [e1] at e
      cases e
      omega)).trans (h1.block i hi hne)⟩

set_option maxRecDepth 100000 in
set_option maxHeartbeats 1000000 in
theorem appendText_any (base : Nat) (v : Value) (bs : List UInt8) (s : ByteArray) (w : World) (hr : Row w base v bs) (hl : bs.length ≤ 100000000) (hs : s.size ≤ 60000) (hb : base ≤ w.heap.size) :
    Calls Tryd.prog 58 #[v, .string s] w fun e w' => ∃ v', e = .returned v' ∧ Row w' base v' (bs ++ txt s) ∧ w.grownBy w' v.ownBlock := by
  obtain ⟨a, c, rfl⟩ := slice_of_row hr
  obtain ⟨i0, hi0, hz0, hz1, hz2⟩ := info_parts infoU8
  have HR : Hid (Row w base (.slice a bs.length c) bs) := hr
  clear hr
  go_enter Tryd.func58, Tryd.ntmps58
  have e1 : ((UInt8.ofNat (s.size / 256)).toNat : Int) = (s.size : Int) / 256 := by
    rw [UInt8.toNat_ofNat']
    omega
  have e2 : ((UInt8.ofNat s.size).toNat : Int) = (s.size : Int) % 256 := by
    rw [UInt8.toNat_ofNat']
    omega
  have HV : Hid (byteVals (bs ++ txt s) = byteVals bs ++ [.int .u8 ((s.size : Int) / 256), .int .u8 ((s.size : Int) % 256)] ++ Lib.strCells s) := by
    show _ = _
    unfold txt
    rw [byteVals_append, byteVals_append, ← List.append_assoc]
    congr 1
    congr 1
    show [Value.int .u8 ((UInt8.ofNat (s.size / 256)).toNat : Int), Value.int .u8 ((UInt8.ofNat s.size).toNat : Int)] = _
    rw [e1, e2]
  have HN : Hid ((bs ++ txt s).length = bs.length + 2 + s.size) := by show _ = _; rw [List.length_append, txt_length]; omega
  clear e1 e2
  go_wp2_with (first
    | (at_builtin; refine wpList_append_own_at _ rfl _ _ 38 rfl base 5 i0 _ 1 1 Tryd.underlying38 hi0 hz0 hz1 hz2 rfl (by decide) (.slice a bs.length c) bs.length (byteVals bs) rfl (World.ownsRow.alloc HR.out _) ⟨w.heap.size, 0, none⟩ 2 2 [.int .u8 ((s.size : Int) / 256), .int .u8 ((s.size : Int) % 256)] rfl rfl (World.news_of_block (cs := #[.int .u8 ((s.size : Int) / 256), .int .u8 ((s.size : Int) % 256)]) (t := 5) (fr := (0, 0)) (heap_alloc_new w _)) (by simp [Value.oneCell']) (by unfold maxLen; omega) (by omega) (by simp; omega) ?_; intro v1 w1 hr1 hg1 hnil1 hloc1)
    | (at_builtin; refine Lib.wpList_append_own_string _ rfl _ _ 38 9 rfl base 5 i0 Tryd.underlying38 Tryd.underlying9 hi0 hz0 hz1 hz2 v1 (bs.length + 2) _ rfl hr1 s rfl (by unfold maxLen; omega) (by omega) (by have := hg1.size; simp at this; omega) ?_; intro v2 w2 hr2 hg2 hx2))
  go_ret
  refine ⟨_, rfl, ?_, ?_⟩
  · unfold Row
    rw [HV.out, HN.out]
    exact hr2
  · have hga : w.grownBy w1 (Value.slice a bs.length c).ownBlock := World.grownBy.trans (World.grownBy_alloc w _ _) hg1
    refine grown_two hga ?_ hg2
    rcases hloc1 with e | e
    · exact Or.inl e
    · exact Or.inr ⟨_, e, by simp⟩

end Go.Proofs.YtobkomfeojhhbaaDoor
