/- Texts that belong together. -/
import Derived.Test.YtipakfdebccchaaMWc
import Derived.Laws.AppendOwnNone
import Derived.Test.YtipakfdebccchaaMW1
/- A file's bytes are told; a disk is asked. -/
namespace Go.Proofs.Ytipakfdebccchaa
open Go.RowKit Go.Maps Go.Sort
open Go.WideMaps Go.WideElems

theorem bytesClone {w : World} {v : Value} {bs : List UInt8} (h : w.ownsRow 0 5 1 v bs.length (byteVals bs)) (hl : bs.length ≤ 1000000000) :
    Calls Try.prog 42 #[v] w fun e w' => ∃ v', e = .returned v' ∧ w'.ownsRow w.heap.size 5 1 v' bs.length (byteVals bs) ∧ Below w.heap.size w w' := by
  rcases h.2 with ⟨rfl, h0⟩ | ⟨g, cap, cur, rfl, _⟩
  · refine (Try.bytes_Clone_nil 0 0 w).mono fun e w' ⟨he, hw⟩ => ⟨_, he, ?_, hw ▸ Below.refl _ _⟩
    have : bs = [] := List.eq_nil_of_length_eq_zero h0
    subst this
    exact World.ownsRow_nil _ _ _ _
  · have e1 : (bs.map fun b => (b.toNat : Int)).map (Value.int .u8) = byteVals bs := by simp [byteVals]
    refine (Try.bytes_Clone_at ⟨g, 0, none⟩ bs.length cap (bs.map fun b => (b.toNat : Int)) w (by simp) (by omega) (fun i hi => ?_)).mono fun e w' ⟨v', he, hr, _, hb⟩ => ⟨v', he, by rw [e1] at hr; exact hr, hb⟩
    refine h.cells (g := g) rfl i _ ?_
    simp [byteVals, List.getD, hi]

section
variable {w : World} {d : Nat} {s : St} (h : IsDisk w d s) (name : ByteArray)
include h

set_option maxHeartbeats 1000000 in
theorem read_bad (hs : name.size ≤ maxLen) (hr : rn name = false) :
    Calls Try.prog 13 #[.pointer (some ⟨d, 0, none⟩), .string name] w fun e w' => e = .returned (.tuple #[.slice none 0 0, .int .i64 2]) ∧ w' = w := by
  go_enter Try.func13, Try.ntmps13
  go_wp2_with (go_at_call 41; refine (find_bad _ _ _ hs hr).mono ?_; rintro e w2 ⟨rfl, rfl⟩)
  go_ret2
  exact ⟨rfl, rfl⟩

set_option maxHeartbeats 1000000 in
theorem read_none (hs : name.size ≤ maxLen) (hr : rn name = true) (hat : s.N.atKey (.string name.data.toList) .nil = .nil) :
    Calls Try.prog 13 #[.pointer (some ⟨d, 0, none⟩), .string name] w fun e w' => e = .returned (.tuple #[.slice none 0 0, .int .i64 3]) ∧ w' = w := by
  have HA : Hid (s.N.atKey (.string name.data.toList) .nil = .nil) := hat
  clear hat
  go_enter Try.func13, Try.ntmps13
  go_wp2_with (go_at_call 41; refine (find_none _ _ _ _ _ _ _ _ _ _ _ _ _ hs hr h.at_ h.mN HA.out).mono ?_; rintro e w2 ⟨rfl, rfl⟩)
  go_ret2
  exact ⟨rfl, rfl⟩

set_option maxHeartbeats 1000000 in
theorem read_ok (hs : name.size ≤ maxLen) (hr : rn name = true) (f : Nat) (hat : s.N.atKey (.string name.data.toList) .nil = .lit (.int .i64 f)) (v : Value) (bs : List UInt8) (dur : Int) (hf : FileAt w f v bs dur) (hl : bs.length ≤ 1000000000) :
    Calls Try.prog 13 #[.pointer (some ⟨d, 0, none⟩), .string name] w fun e w' => ∃ v', e = .returned (.tuple #[v', .int .i64 0]) ∧ w'.ownsRow w.heap.size 5 1 v' bs.length (byteVals bs) ∧ Below w.heap.size w w' := by
  have HA : Hid (s.N.atKey (.string name.data.toList) .nil = .lit (.int .i64 f)) := hat
  clear hat
  obtain ⟨f0, f1, ff0, ff1⟩ := hf.cells
  go_enter Try.func13, Try.ntmps13
  go_wp2_with (first | (go_at_call 41; refine (find_some _ _ _ _ _ _ _ _ _ _ _ _ _ f hs hr h.at_ h.mN HA.out).mono ?_; rintro e w2 ⟨rfl, rfl⟩) | (go_at_call 42; refine (bytesClone hf.row hl).mono ?_; rintro e w3 ⟨v', rfl, hr3, hb3⟩))
  go_ret2
  exact ⟨v', rfl, hr3, hb3⟩
end

end Go.Proofs.Ytipakfdebccchaa

/- Slices of bytes that came in; appends of them. -/
namespace Go.Proofs.Ytipakfdebccchaa
open Go.RowKit Go.Maps Go.Sort
open Go.WideMaps Go.WideElems

/-- A slice of bytes, wherever it lies. -/
def BytesAt (w : World) (v : Value) (bs : List UInt8) : Prop :=
  (v = .slice none 0 0 ∧ bs = []) ∨ ∃ ad c, v = .slice (some ad) bs.length c ∧ bs.length ≤ c ∧ c ≤ maxLen ∧ ∀ j u, (byteVals bs)[j]? = some u → w.cell? (ad.add j) = some u

theorem add_block (a : Addr) (j : Nat) : (a.add j).block = a.block := by unfold Addr.add; split <;> rfl

theorem BytesAt.shape {w : World} {v : Value} {bs : List UInt8} (h : BytesAt w v bs) : ∃ a c, v = .slice a bs.length c ∧ bs.length ≤ c ∧ c ≤ maxLen := by
  rcases h with ⟨rfl, rfl⟩ | ⟨ad, c, rfl, h1, h2, _⟩
  · exact ⟨none, 0, rfl, Nat.le_refl _, by unfold maxLen; omega⟩
  · exact ⟨_, c, rfl, h1, h2⟩

theorem BytesAt.kept {w w' : World} {v : Value} {bs : List UInt8} (h : BytesAt w v bs) {O : Nat → Prop} (k : Kept O w w') (hO : ∀ b, v.ownBlock = some b → bs ≠ [] → ¬ O b) : BytesAt w' v bs := by
  rcases h with h | ⟨ad, c, rfl, h1, h2, h3⟩
  · exact Or.inl h
  · refine Or.inr ⟨ad, c, rfl, h1, h2, fun j u hj => ?_⟩
    have hc := h3 j u hj
    have hlt := World.block_lt_of_cell? w _ hc
    rw [World.cell?_of_block (w := w) (w' := w') (a := ad.add j) (k.block _ hlt (by rw [add_block]; exact hO ad.block rfl (fun e => by subst e; simp [byteVals] at hj)))]
    exact hc

theorem BytesAt.below {w w' : World} {v : Value} {bs : List UInt8} (h : BytesAt w v bs) (hb : Below w.heap.size w w') : BytesAt w' v bs :=
  h.kept ((Kept.refl (fun _ => False) w).below hb) (fun _ _ _ e => e)

theorem BytesAt.of_row {w : World} {base : Nat} {v : Value} {bs : List UInt8} (h : w.ownsRow base 5 1 v bs.length (byteVals bs)) : BytesAt w v bs := by
  have hc : ∀ g, v.ownBlock = some g → ∀ j u, (byteVals bs)[j]? = some u → w.cell? ((⟨g, 0, none⟩ : Addr).add j) = some u := fun g hg => h.cells hg
  rcases h.2 with ⟨rfl, h0⟩ | ⟨g, cap, cur, rfl, _, _, h1, h2, _⟩
  · exact Or.inl ⟨rfl, List.eq_nil_of_length_eq_zero h0⟩
  · exact Or.inr ⟨_, cap, rfl, h1, h2, fun j u hj => hc g rfl j u hj⟩

/-- Its beginning. -/
theorem BytesAt.cut {w : World} {v : Value} {bs : List UInt8} (h : BytesAt w v bs) {k : Nat} (hk : k ≤ bs.length) : BytesAt w (cutV v k) (bs.take k) := by
  have hl : (bs.take k).length = k := by rw [List.length_take]; omega
  rcases h with ⟨rfl, rfl⟩ | ⟨ad, c, rfl, h1, h2, h3⟩
  · have : k = 0 := by simpa using hk
    subst this
    exact Or.inl ⟨rfl, rfl⟩
  · refine Or.inr ⟨ad, c, by rw [hl]; rfl, by omega, h2, fun j u hj => h3 j u ?_⟩
    rw [byteVals_take, List.getElem?_take] at hj
    split at hj
    · exact hj
    · cases hj

theorem BytesAt.str {w : World} {v : Value} {bs : List UInt8} (h : BytesAt w v bs) : (convert 31 9 v).run Try.prog w = .ok (.string ⟨bs.toArray⟩) w := by
  rcases h with ⟨rfl, rfl⟩ | ⟨ad, c, rfl, h1, h2, h3⟩
  · exact run_convert_bytes_nil w 31 5 Try.underlying31 Try.underlying5 0 0 9 Try.underlying9
  · have e1 : (bs.map fun b => (b.toNat : Int)).map (Value.int .u8) = byteVals bs := by simp [byteVals]
    have hl : (loadCells ad bs.length).run Try.prog w = .ok ((bs.map fun b => (b.toNat : Int)).map (Value.int .u8)).toArray w := by
      rw [e1]
      have := run_loadCells_list (P := Try.prog) w ad (byteVals bs) h3
      rw [byteVals_length] at this
      exact this
    rw [run_convert_bytes_string w 31 9 5 _ bs.length c Try.underlying31 Try.underlying5 Try.underlying9, run_bytesToString w _ bs.length c _ hl, foldl_push_bytes]
    have e2 : (bs.map fun b => (b.toNat : Int)).map (fun n => UInt8.ofNat n.toNat) = bs := by
      rw [List.map_map]
      have : bs.map ((fun n : Int => UInt8.ofNat n.toNat) ∘ fun b : UInt8 => (b.toNat : Int)) = bs.map id := List.map_congr_left (fun a _ => by simp)
      rw [this, List.map_id]
    rw [e2]
    have e3 : (⟨ByteArray.empty.data ++ bs.toArray⟩ : ByteArray) = ⟨bs.toArray⟩ := WideShapes.bytes_inj (by simp [ByteArray.empty, ByteArray.emptyWithCapacity]; rfl)
    rw [e3]

set_option maxRecDepth 100000 in
set_option maxHeartbeats 1000000 in
theorem put_nil (d f : Nat) (cap used ops : Int) (nb db : Nat) (pv : Value) (fb : Nat) (stop : Int) (v : Value) (bs : List UInt8) (dur : Int) (w : World)
    (hd : DiskAt w d cap used ops nb db pv fb stop) (hf : FileAt w f v bs dur) (hu : 0 ≤ used) (hu' : used ≤ 1000000000000) :
    Calls Try.prog 62 #[.pointer (some ⟨d, 0, none⟩), .pointer (some ⟨f, 0, none⟩), .slice none 0 0] w fun e w' => e = .returned (.tuple #[]) ∧
      FileAt w' f v bs dur ∧ DiskAt w' d cap used ops nb db pv fb stop ∧ Kept (fun k => k = d ∨ k = f) w w' := by
  obtain ⟨c0, c1, c2, c3, c4, c5, c6, c7, cf⟩ := hd.cells
  obtain ⟨f0, f1, ff0, ff1⟩ := hf.cells
  have hne := hf.ne_disk hd
  have hne' := hne.symm
  obtain ⟨i0, hi0, hz0, hz1, hz2⟩ := info_parts info5
  obtain ⟨va, vc, hva⟩ := slice_of_row hf.row
  have HV : Hid (v = .slice va bs.length vc) := hva
  rw [hva] at f0
  have hrow := hf.row
  rw [hva] at hrow
  clear hva
  go_enter Try.func62, Try.ntmps62
  go_wp2_with (at_builtin; refine wpList_append_own_none rfl _ _ 31 rfl 0 5 i0 1 Try.underlying31 hi0 _ bs.length (byteVals bs) rfl hrow rfl ?_)
  go_end0
  have k1 : Kept (fun k => k = d ∨ k = f) w (w.setCell ⟨f, 0, none⟩ (.slice va bs.length vc)) := (Kept.refl (fun k => k = d ∨ k = f) w).setCell (p := ⟨f, 0, none⟩) (fun _ => Or.inr rfl) _
  have k2 := k1.setCell (p := ⟨d, 1, none⟩) (fun _ => Or.inl rfl) (.int .i64 used)
  refine ⟨rfl, ⟨?_, k2.ownsRow hf.row (fun i hi e => e.elim (fun e => hd.ne_row hf.row (by decide) (e ▸ hi)) (fun e => hf.ne_row hf.row (by decide) (e ▸ hi)))⟩, (hd.other (a := ⟨f, 0, none⟩) hne' _).set1 _, k2⟩
  refine (Below.heap_setCell _ ⟨d, 1, none⟩ _ f hne).trans ?_
  rw [HV.out]
  exact heap_setCell_same (HV.out ▸ hf.at_) _

end Go.Proofs.Ytipakfdebccchaa

/- The document's Right answers the same function of the bytes. -/
namespace Go.Proofs.Ytipakfdebccchaa
open Go.RowKit

set_option maxHeartbeats 400000 in
theorem refRight_any (s : ByteArray) (w : World) (hs : s.size ≤ maxLen) :
    Calls Try.prog 48 #[.string s] w fun e w' => e = .returned (.bool (rn s)) ∧ w' = w := by
  unfold maxLen at hs
  go_enter Try.func48, Try.ntmps48
  go_wp2
  go_loop [3] (fun i => ∃ k : Nat, k ≤ s.size ∧ i = .int .i64 k ∧ allRb (s.data.toList.take k) = true) (fun i => s.size - (intOf i).toNat)
  case atStart => exact ⟨0, Nat.zero_le _, rfl, by simp [allRb]⟩
  case round =>
    obtain ⟨k, hk, rfl, hall⟩ := hrel
    by_cases hlt : k < s.size
    · have HS : Hid (allRb (s.data.toList.take (k + 1)) = rb s[k].toNat) := by
        have := allRb_snoc s k hlt
        rw [hall, Bool.true_and] at this
        exact this
      clear hall
      have hc := s[k].toNat_lt
      have HF : Hid (rb s[k].toNat = false → rn s = false) := fun h1 => by
        have h2 := HS.out
        rw [h1] at h2
        exact rn_no (allRb_take h2)
      generalize hcc : s[k].toNat = c at *
      go_wp2
      all_goals first
        | (go_ret; refine ⟨ret_bool (HF.out (by simp at *; simp [rb]; omega)).symm, rfl⟩)
        | (have HT : Hid (allRb (s.data.toList.take (k + 1)) = true) := HS.out.trans (by simp at *; simp [rb]; omega)
           go_round
           case rel => exact ⟨k + 1, by omega, by go_num, HT.out⟩
           case measure => simp [intOf]; omega)
    · by_cases hb : 1 ≤ s.size ∧ s.size ≤ 64
      · have HN : Hid (rn s = true) := by
          rw [List.take_of_length_le (by simp; omega)] at hall
          exact rn_ok hb.1 hb.2 hall
        obtain ⟨hb1, hb2⟩ := hb
        go_wp2
        go_ret
        exact ⟨ret_bool (by first | (rw [HN.out]; done) | (rw [HN.out]; simp; done) | (rw [HN.out]; simp; omega)), rfl⟩
      · have HN : Hid (rn s = false) := rn_bad hb
        go_wp2
        all_goals (go_ret; exact ⟨ret_bool (by first | (rw [HN.out]; done) | (rw [HN.out]; simp; done) | (rw [HN.out]; simp; omega)), rfl⟩)

end Go.Proofs.Ytipakfdebccchaa
