/- Texts that belong together. -/
import Derived.Test.YtdadagbkkaeejaaGreatDoorML7
import Derived.Laws.BytesString
import Derived.Laws.BytesArg
import Derived.Laws.AppendOwnNone
import Derived.Deep.RegionLaw
import Derived.Test.YtdadagbkkaeejaaGreatDoorMEy0
import Derived.Lib.LazyBuf
/- A slice that reads as bytes. -/
namespace Go.Proofs.YtdadagbkkaeejaaGreatDoor
open Go.RowKit Go.Maps

/-- A slice that reads as these bytes. -/
def BytesAt (w : World) (v : Value) (bs : List UInt8) : Prop :=
  ∃ a c, v = .slice a bs.length c ∧ (bs.length ≤ c ∧ c ≤ maxLen) ∧ (a = none → c = 0 ∧ bs = []) ∧ ∀ k (hk : k < bs.length), ∃ b o, a = some ⟨b, o, none⟩ ∧ b < w.heap.size ∧ w.cell? ⟨b, o + k, none⟩ = some (.int .u8 bs[k].toNat)
theorem BytesAt.nil {w : World} : BytesAt w (.slice none 0 0) [] := ⟨none, 0, rfl, ⟨Nat.zero_le _, Nat.zero_le _⟩, fun _ => ⟨rfl, rfl⟩, fun _k hk => absurd hk (Nat.not_lt_zero _)⟩
theorem BytesAt.below {w w' : World} {v : Value} {bs : List UInt8} (h : BytesAt w v bs) (hb : Below w.heap.size w w') : BytesAt w' v bs := by
  obtain ⟨a, c, e, hlc, hn, hk⟩ := h
  refine ⟨a, c, e, hlc, hn, fun k hlt => ?_⟩
  obtain ⟨b, o, ha, hl, h1⟩ := hk k hlt
  have := hb.size
  exact ⟨b, o, ha, by omega, (hb.cell (p := ⟨b, o + k, none⟩) hl).trans h1⟩
theorem BytesAt.drewN {w : World} {v : Value} {bs : List UInt8} (h : BytesAt w v bs) (q : Nat) : BytesAt (w.drewN q) v bs := h.below (below_drewN (Below.refl _ _) q)
theorem BytesAt.one {w : World} {a : Option Addr} {c n : Nat} {bs : List UInt8} (h : BytesAt w (.slice a n c) bs) (k : Nat) (hk : k < bs.length) : ∃ b o, a = some ⟨b, o, none⟩ ∧ ∀ w', Below w.heap.size w w' → w'.cell? ⟨b, o + k, none⟩ = some (.int .u8 bs[k].toNat) := by
  obtain ⟨a', c', e, -, -, hc⟩ := h
  cases e
  obtain ⟨b, o, rfl, hb, h1⟩ := hc k hk
  exact ⟨b, o, rfl, fun w' hb' => (hb'.cell (p := ⟨b, o + k, none⟩) hb).trans h1⟩
theorem BytesAt.of_row {w : World} {base : Nat} {v : Value} {bs : List UInt8} (h : w.ownsRow base 5 1 v bs.length (byteVals bs)) : BytesAt w v bs := by
  rcases h.2 with ⟨e, h0⟩ | ⟨g, cap, cur, e, hg, hcur, hc1, hc2, _⟩
  · have : bs = [] := List.eq_nil_of_length_eq_zero h0
    subst this
    rw [e]
    exact BytesAt.nil
  · refine ⟨some ⟨g, 0, none⟩, cap, e, ⟨hc1, hc2⟩, (fun e9 => by cases e9), fun k hk => ⟨g, 0, rfl, (Array.getElem?_eq_some_iff.1 hcur).1, ?_⟩⟩
    have := h.cells (g := g) (by rw [e]; rfl) k (.int .u8 bs[k].toNat) (by simp [byteVals, hk])
    rw [Addr.add_lit] at this
    exact this
theorem BytesAt.take {w : World} {a : Option Addr} {n c : Nat} {bs : List UInt8} (h : BytesAt w (.slice a n c) bs) (k : Nat) (hk : k ≤ n) : BytesAt w (.slice a k c) (bs.take k) := by
  obtain ⟨a', c', e, hlc, hn, hc⟩ := h
  cases e
  have hl : (bs.take k).length = k := by simp; omega
  refine ⟨a, c, by rw [hl], ⟨by omega, hlc.2⟩, fun e9 => ⟨(hn e9).1, by rw [(hn e9).2]; simp⟩, fun i hi => ?_⟩
  obtain ⟨b, o, e, h1, h2⟩ := hc i (by omega)
  exact ⟨b, o, e, h1, by rw [h2]; simp⟩
theorem BytesAt.drop {w : World} {b o n c : Nat} {bs : List UInt8} (h : BytesAt w (.slice (some ⟨b, o, none⟩) n c) bs) (k : Nat) (_hk : k ≤ n) : BytesAt w (.slice (some ⟨b, o + k, none⟩) (n - k) (c - k)) (bs.drop k) := by
  obtain ⟨a', c', e, hlc, -, hc⟩ := h
  cases e
  have hl : (bs.drop k).length = bs.length - k := by simp
  refine ⟨_, _, by rw [hl], ⟨by omega, by have := hlc.2; omega⟩, (fun e9 => by cases e9), fun i hi => ?_⟩
  obtain ⟨b', o', e, h1, h2⟩ := hc (k + i) (by omega)
  cases e
  exact ⟨b, o + k, rfl, h1, by rw [show o + k + i = o + (k + i) by omega, h2]; simp⟩
/-- Its end, as a slice expression gives it. -/
theorem BytesAt.rest {w : World} {b o n c : Nat} {bs : List UInt8} (h : BytesAt w (.slice (some ⟨b, o, none⟩) n c) bs) (k : Nat) (hk : k ≤ n) : BytesAt w (.slice (if c = k then some ⟨b, o, none⟩ else some ⟨b, o + k, none⟩) (n - k) (c - k)) (bs.drop k) := by
  by_cases hc : c = k
  · rw [if_pos hc]
    obtain ⟨a', c', e, hlc, -⟩ := id h
    cases e
    have hl : (bs.drop k).length = bs.length - k := by simp
    refine ⟨_, _, by rw [hl], ⟨by omega, by have := hlc.2; omega⟩, (fun e9 => by cases e9), fun i hi => by omega⟩
  · rw [if_neg hc]
    exact h.drop k hk
theorem BytesAt.cells {w : World} {ad : Addr} {n c : Nat} {bs : List UInt8} (h : BytesAt w (.slice (some ad) n c) bs) : ∀ j u, (byteVals bs)[j]? = some u → w.cell? (ad.add j) = some u := fun j u hu => by
  obtain ⟨a', c', e, hlc, -, hc⟩ := h
  cases e
  have hj : j < bs.length := by
    rcases Nat.lt_or_ge j bs.length with h1 | h1
    · exact h1
    · rw [List.getElem?_eq_none (by rw [byteVals_length]; exact h1)] at hu; cases hu
  obtain ⟨b', o', e, _, h1⟩ := hc j hj
  cases e
  rw [Addr.add_lit, h1, ← hu]
  simp [byteVals, hj]
/-- Its text. -/
theorem BytesAt.str {w : World} {v : Value} {bs : List UInt8} (h : BytesAt w v bs) : (convert 22 9 v).run Tryz.prog w = .ok (.string ⟨bs.toArray⟩) w := by
  obtain ⟨a, c, rfl, hlc, hn, hc⟩ := id h
  cases a with
  | none =>
    obtain ⟨rfl, rfl⟩ := hn rfl
    exact run_convert_bytes_nil w 22 5 Tryz.underlying22 Tryz.underlying5 0 0 9 Tryz.underlying9
  | some ad =>
    have e1 : (bs.map fun b => (b.toNat : Int)).map (Value.int .u8) = byteVals bs := by simp [byteVals]
    have hl : (loadCells ad bs.length).run Tryz.prog w = .ok ((bs.map fun b => (b.toNat : Int)).map (Value.int .u8)).toArray w := by
      rw [e1]
      have := run_loadCells_list (P := Tryz.prog) w ad (byteVals bs) h.cells
      rw [byteVals_length] at this
      exact this
    rw [run_convert_bytes_string w 22 9 5 _ bs.length c Tryz.underlying22 Tryz.underlying5 Tryz.underlying9, run_bytesToString w _ bs.length c _ hl]
    have e2 : (bs.map fun b => (b.toNat : Int)).foldl (fun r n => r.push (UInt8.ofNat n.toNat)) ByteArray.empty = ⟨bs.toArray⟩ := by
      have key : ∀ (l : List UInt8) (r : ByteArray), (l.map fun b => (b.toNat : Int)).foldl (fun r n => r.push (UInt8.ofNat n.toNat)) r = ⟨r.data ++ l.toArray⟩ := fun l => by
        induction l with
        | nil => intro r; simp
        | cons x t ih =>
          intro r
          rw [List.map_cons, List.foldl_cons, ih]
          apply WideShapes.bytes_inj
          simp [ByteArray.push]
      rw [key]
      apply WideShapes.bytes_inj
      simp [ByteArray.empty, ByteArray.emptyWithCapacity]
      rfl
    rw [e2]
theorem byteVals_one (bs : List UInt8) : ∀ u ∈ byteVals bs, u.oneCell' = true := fun u hu => by
  simp only [byteVals, List.mem_map] at hu
  obtain ⟨x, _, rfl⟩ := hu
  rfl
/-- append of a slice of bytes, nil or not, onto a slice of the call's own. -/
theorem wpList_append_bytes (w : World) {ops : Array Oper} {rest : List Oper} {o : Oper} {a : Act} {Q : Exit → Act → World → Prop} (hgd : o.guard = none) (s x : Operand)
    (ho : o.op = .call { callee := .builtin .append, args := #[s, x], argTypes := #[22, 22] }) (base : Nat) (v : Value) (n : Nat) (xs : List Value) (hs : a.eval s = v) (hown : w.ownsRow base 5 1 v n xs)
    (xv : Value) (nw : List UInt8) (hx : a.eval x = xv) (hb : BytesAt w xv nw) (hl : n + nw.length ≤ 1000000000) (hbase : base ≤ w.heap.size)
    (h : ∀ v' w', w'.ownsRow base 5 1 v' (n + nw.length) (xs ++ byteVals nw) → w.grownBy w' v.ownBlock → (v'.ownBlock = v.ownBlock ∨ v'.ownBlock = some w.heap.size) → wpList Tryz.prog ops Q rest (a.put o.dst v') w') : wpList Tryz.prog ops Q (o :: rest) a w := by
  obtain ⟨i0, hi0, hz0, hz1, hz2⟩ := info_parts infoU8
  obtain ⟨ax, c, rfl, hlc, hn, hc⟩ := id hb
  cases ax with
  | none =>
    obtain ⟨rfl, rfl⟩ := hn rfl
    exact wpList_append_own_none hgd s x 22 ho base 5 i0 1 Tryz.underlying22 hi0 v n xs hs hown hx (h v w (by simpa [byteVals] using hown) ⟨rfl, rfl, rfl, Nat.le_refl _, fun _ _ _ => rfl⟩ (Or.inl rfl))
  | some ad => exact wpList_append_own_at w hgd s x 22 ho base 5 i0 (.int .u8 0) 1 1 Tryz.underlying22 hi0 hz0 hz1 hz2 rfl (by decide) v n xs hs hown ad nw.length c (byteVals nw) hx (by rw [byteVals_length]; omega) hb.cells (byteVals_one nw) (by unfold maxLen; omega) (by omega) hbase (fun v' w' h1 h2 _ h4 => h v' w' h1 h2 h4)

end Go.Proofs.YtdadagbkkaeejaaGreatDoor

/- A body's lines: how the document tells them. -/
namespace Go.Proofs.YtdadagbkkaeejaaGreatDoor
open Go.RowKit Go.Maps

def mkB (l : List UInt8) : ByteArray := ⟨l.toArray⟩
theorem mkB_size (l : List UInt8) : (mkB l).size = l.length := by show l.toArray.size = _; simp
theorem txCells_append (a b : List ByteArray) : txCells (a ++ b) = txCells a ++ txCells b := by simp [txCells]

set_option maxRecDepth 100000 in
set_option maxHeartbeats 1000000 in
theorem clip_any (v : Value) (bs : List UInt8) (w : World) (h : BytesAt w v bs) (hl : bs.length ≤ 9223372036854775807) :
    Calls Tryz.prog 4 #[v] w fun e w' => ∃ v', e = .returned v' ∧ BytesAt w v' (bs.take 1500) ∧ w' = w := by
  obtain ⟨a, c, rfl, hlc, -⟩ := id h
  have hc : c ≤ 9223372036854775807 := by have := hlc.2; unfold maxLen at this; omega
  by_cases hn : 1500 < bs.length
  · have HT : Hid (BytesAt w (.slice a 1500 c) (bs.take 1500)) := h.take 1500 (by omega)
    clear h
    go_enter Tryz.func4, Tryz.ntmps4
    go_wp2
    go_ret
    exact ⟨_, rfl, HT.out, rfl⟩
  · have HT : Hid (BytesAt w (.slice a bs.length c) (bs.take 1500)) := by
      show BytesAt _ _ _
      rw [List.take_of_length_le (by omega)]
      exact h
    clear h
    go_enter Tryz.func4, Tryz.ntmps4
    go_wp2
    go_ret
    exact ⟨_, rfl, HT.out, rfl⟩

/-- The bytes between two places, as a slice of the row. -/
theorem BytesAt.mid {w : World} {a : Option Addr} {n c : Nat} {bs : List UInt8} (h : BytesAt w (.slice a n c) bs) (f i : Nat) (hf : f ≤ i) (hi : i ≤ n) : BytesAt w (.slice (if c = f then a else a.map (fun p => p.add f)) (i - f) (c - f)) ((bs.take i).drop f) := by
  obtain ⟨a', c', e, hlc, hn, hc⟩ := id h
  cases e
  cases a with
  | none =>
    obtain ⟨rfl, rfl⟩ := hn rfl
    simp at hi
    subst hi
    obtain rfl : f = 0 := by omega
    simpa using BytesAt.nil
  | some p =>
    have ht := h.take i hi
    by_cases hb : bs = []
    · subst hb
      simp at hi
      subst hi
      obtain rfl : f = 0 := by omega
      by_cases h0 : c = 0
      · rw [if_pos h0]; simpa using ht
      · rw [if_neg h0]
        refine ⟨_, _, rfl, ⟨by simp, by have := hlc.2; omega⟩, (fun e9 => by cases e9), fun k hk => by simp at hk⟩
    · obtain ⟨b, o, e, -⟩ := hc 0 (List.length_pos_iff.2 hb)
      cases e
      simp only [Option.map_some, Addr.add_lit]
      exact ht.rest f hf

theorem linesA_from (bs : List UInt8) (f i : Nat) (hi : i < bs.length) (hf : f ≤ i) : ∃ c, c = bs[i] ∧ (bs.drop i) = c :: bs.drop (i + 1) ∧ (bs.take (i + 1)).drop f = (bs.take i).drop f ++ [c] := by
  refine ⟨_, rfl, List.drop_eq_getElem_cons hi, ?_⟩
  rw [List.take_succ_eq_append_getElem hi, List.drop_append_of_le_length (by simp; omega)]
theorem infoS : (Tryz.prog.info? 9).map (fun i => (i.zero, i.size, i.bytes)) = some (some (.string ByteArray.empty), 1, 16) := by kernel_rfl

set_option maxRecDepth 100000 in
set_option maxHeartbeats 2000000 in
theorem refLines_any (v : Value) (bs : List UInt8) (w : World) (h : BytesAt w v bs) (hl : bs.length ≤ 100000) :
    Calls Tryz.prog 5 #[v] w fun e w' => ∃ v', e = .returned v' ∧ w'.ownsRow w.heap.size 9 1 v' (linesF bs).length (txCells ((linesF bs).map mkB)) ∧ Below w.heap.size w w' := by
  obtain ⟨a, c, rfl, hlc, -⟩ := id h
  obtain ⟨i0, hi0, hz0, hz1, hz2⟩ := info_parts infoS
  have hc : c ≤ 9223372036854775807 := by have := hlc.2; unfold maxLen at this; omega
  have hcl : bs.length ≤ c := hlc.1
  by_cases hne : bs = []
  · subst hne
    clear h
    go_enter Tryz.func5, Tryz.ntmps5
    go_wp2
    go_loopw [3, 4, 5] (fun o f i wr => o = .slice none 0 0 ∧ f = .int .i64 0 ∧ i = .int .i64 0 ∧ wr = w) (fun _ _ i _ => 0)
    case atStart => exact ⟨rfl, rfl, rfl, rfl⟩
    case round =>
      obtain ⟨rfl, rfl, rfl, rfl⟩ := hrel
      go_wp2
      go_ret
      exact ⟨_, rfl, World.ownsRow_nil _ _ _ _, Below.refl _ _⟩
  · obtain ⟨b, off, rfl, -⟩ := h.one 0 (List.length_pos_iff.2 hne)
    have HL : Hid (∀ W, Below w.heap.size w W → BytesAt W (.slice (some ⟨b, off, none⟩) bs.length c) bs) := fun W hb => h.below hb
    have HO : Hid (∀ k (hk : k < bs.length) W, Below w.heap.size w W → W.cell? ⟨b, off + k, none⟩ = some (.int .u8 bs[k].toNat)) := fun k hk W hb => by
      obtain ⟨b', o', e, hh⟩ := h.one k hk
      cases e
      exact hh W hb
    have HM : Hid (∀ W f i, Below w.heap.size w W → f ≤ i → i ≤ bs.length → (convert 22 9 (.slice (if c = f then some ⟨b, off, none⟩ else some ⟨b, off + f, none⟩) (i - f) (c - f))).run Tryz.prog W = .ok (.string (mkB ((bs.take i).drop f))) W) := fun W f i hb h1 h2 => by
      have := (HL.out W hb).mid f i h1 h2
      simp only [Option.map_some, Addr.add_lit] at this
      exact this.str
    clear h hlc hne
    go_enter Tryz.func5, Tryz.ntmps5
    go_wp2
    go_loopw [3, 4, 5] (fun o f i wr => ∃ (k m : Nat) (ls : List (List UInt8)), f = .int .i64 k ∧ i = .int .i64 m ∧ k ≤ m ∧ m ≤ bs.length ∧ ls.length ≤ m ∧ Hid (wr.ownsRow w.heap.size 9 1 o ls.length (txCells (ls.map mkB))) ∧ Hid (linesF bs = ls ++ linesA (bs.drop m) ((bs.take m).drop k)) ∧ Hid (Below w.heap.size w wr))
      (fun _ _ i _ => bs.length - (intOf i).toNat)
    case atStart => exact ⟨0, 0, [], rfl, rfl, Nat.le_refl _, Nat.zero_le _, Nat.zero_le _, World.ownsRow_nil _ _ _ _, (by show _ = _; simp [linesF]), Below.refl _ _⟩
    case round =>
      obtain ⟨k, m, ls, rfl, rfl, hkm, hm, hls, hrow, HF, hbl⟩ := hrel
      have hsz := hbl.out.size
      have hlen : (txCells (ls.map mkB)).length = ls.length := by simp [txCells]
      by_cases hlt : m < bs.length
      · have g0 := HO.out m hlt wr hbl.out
        obtain ⟨x, hx, hd, ht⟩ := linesA_from bs k m hlt hkm
        rw [← hx] at g0
        by_cases h10 : x = 10
        · subst h10
          have HF2 : Hid (linesF bs = (ls ++ [(bs.take m).drop k]) ++ linesA (bs.drop (m + 1)) ((bs.take (m + 1)).drop (m + 1))) := by
            show _ = _
            have e : (bs.take (m + 1)).drop (m + 1) = [] := List.drop_of_length_le (by simp; omega)
            rw [HF.out, hd, linesA_break, List.append_assoc, List.singleton_append, e]
          have cv := HM.out wr k m hbl.out hkm hm
          rw [if_neg (by omega)] at cv
          clear HF hd ht hx
          generalize (bs.take m).drop k = cur at *
          go_wp2_with (at_builtin; refine wpList_append_own _ rfl _ _ 24 rfl w.heap.size 9 i0 (.string ByteArray.empty) 1 16 Tryz.underlying24 hi0 hz0 hz1 hz2 rfl (by decide) _ _ _ rfl (hrow.out.alloc _) ⟨wr.heap.size, 0, none⟩ 1 1 [.string (mkB cur)] rfl rfl (cell_one_new _ _ _) (by simp [Value.oneCell']) (by unfold maxLen at *; omega) (by omega) (by simp; omega) ?_; intro v' w3 hown' hg3 hnil3; go_frame)
          go_roundw
          case rel =>
            refine ⟨m + 1, m + 1, ls ++ [cur], by go_num, by go_num, Nat.le_refl _, by omega, by simp; omega, ?_, HF2, ?_⟩
            · show World.ownsRow _ _ _ _ _ _ _
              simpa [txCells] using hown'
            · exact (hbl.out.alloc hsz _).grown hg3 (by simp; omega) (fun j hj => (hrow.out.lt j hj).1)
          case measure => simp [intOf]; omega
        · have HF2 : Hid (linesF bs = ls ++ linesA (bs.drop (m + 1)) ((bs.take (m + 1)).drop k)) := by
            show _ = _
            rw [HF.out, hd, linesA_on h10, ht]
          have n1 : ¬ (x.toNat : Int) = 10 := fun e => h10 (UInt8.toNat_inj.1 (by simp; omega))
          have hxl := x.toNat_lt
          clear HF hd ht hx h10
          generalize x.toNat = xN at *
          go_wp2
          go_roundw
          case rel => exact ⟨k, m + 1, ls, rfl, by go_num, by omega, by omega, by omega, hrow, HF2, hbl⟩
          case measure => simp [intOf]; omega
      · obtain rfl : m = bs.length := by omega
        by_cases hk : k < bs.length
        · have HF2 : Hid (linesF bs = ls ++ [(bs.take bs.length).drop k]) := by
            show _ = _
            rw [HF.out, List.drop_length, linesA_end]
            intro e
            have := congrArg List.length e
            simp at this
            omega
          have cv := HM.out wr k bs.length hbl.out hkm (Nat.le_refl _)
          rw [if_neg (by omega)] at cv
          clear HF
          generalize (bs.take bs.length).drop k = cur at *
          go_wp2_with (at_builtin; refine wpList_append_own _ rfl _ _ 24 rfl w.heap.size 9 i0 (.string ByteArray.empty) 1 16 Tryz.underlying24 hi0 hz0 hz1 hz2 rfl (by decide) _ _ _ rfl (hrow.out.alloc _) ⟨wr.heap.size, 0, none⟩ 1 1 [.string (mkB cur)] rfl rfl (cell_one_new _ _ _) (by simp [Value.oneCell']) (by unfold maxLen at *; omega) (by omega) (by simp; omega) ?_; intro v' w3 hown' hg3 hnil3; go_frame)
          go_ret
          refine ⟨_, rfl, ?_, ?_⟩
          · rw [HF2.out]
            simpa [txCells] using hown'
          · exact (hbl.out.alloc hsz _).grown hg3 (by simp; omega) (fun j hj => (hrow.out.lt j hj).1)
        · obtain rfl : k = bs.length := by omega
          have HF2 : Hid (linesF bs = ls) := by
            show _ = _
            rw [HF.out, List.drop_length, List.take_length, List.drop_length, linesA_nil, List.append_nil]
          clear HF
          go_wp2
          go_ret
          refine ⟨_, rfl, ?_, hbl.out⟩
          rw [HF2.out]
          exact hrow.out
end Go.Proofs.YtdadagbkkaeejaaGreatDoor
