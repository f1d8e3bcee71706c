/- Texts that belong together. -/
import Derived.Test.YtipakfdebccchaaMWr
import Derived.Lib.SlBytesConst
import Derived.Test.YtipakfdebccchaaMJ6
/- What was made durable is there behind a crash. -/
namespace Go.Proofs.Ytipakfdebccchaa
open Go.RowKit Go.Maps Go.Sort
open Go.WideMaps Go.WideElems

theorem strOf_row {w : World} {base : Nat} {v : Value} {bs : List UInt8} (h : w.ownsRow base 5 1 v bs.length (byteVals bs)) : (convert 31 9 v).run Try.prog w = .ok (.string ⟨bs.toArray⟩) w := by
  rcases h.2 with ⟨rfl, h0⟩ | ⟨g, cap, cur, rfl, _⟩
  · have : bs = [] := List.eq_nil_of_length_eq_zero h0
    subst this
    exact run_convert_bytes_nil w 31 5 Try.underlying31 Try.underlying5 0 0 9 Try.underlying9
  · have e := run_convert_bytes_arg (P := Try.prog) w 31 5 Try.underlying31 Try.underlying5 g 0 bs.length cap (bs.map fun b => (b.toNat : Int)) (by simp) (fun i hi => by
      have := h.cells (g := g) rfl i (.int .u8 (bs[i].toNat)) (by simp [byteVals, hi])
      rw [Addr.add_lit] at this
      rw [this]
      simp [List.getD, hi]) 9 Try.underlying9
    rw [e]
    have e2 : strOfNums (bs.map fun b => (b.toNat : Int)) = ⟨bs.toArray⟩ := by
      have : (strOfNums (bs.map fun b => (b.toNat : Int))).data.toList = bs := by
        rw [strOfNums_data, List.map_map]
        have : bs.map ((fun n : Int => UInt8.ofNat n.toNat) ∘ fun b : UInt8 => (b.toNat : Int)) = bs.map id := List.map_congr_left (fun a _ => by simp)
        rw [this, List.map_id]
      exact WideShapes.bytes_inj (by rw [this])
    rw [e2]

def nmA : ByteArray := ⟨#[97]⟩
def xyz : List UInt8 := [120, 121, 122]
def mA (f : Nat) : DataW Unit := .map [(.string [97], .lit (.int .i64 f))]
/-- The states that wakes goes through. -/
def wkS (B f nb : Nat) (pv : Value) (used ops : Int) (n : Nat) (D : DataW Unit) (pend : List (ByteArray × ByteArray × Option Addr)) : St := ⟨100, used, ops, -1, nb, B + 1, B + 2, pv, n, mA f, D, .map [], pend⟩

structure Wk (w0 w : World) (d f : Nat) (s : St) (x : FileV) : Prop where
  disk : IsDisk w d s
  file : FileAt w f x.v x.bs x.dur
  row : ∀ k, x.v.ownBlock = some k → ¬ s.own d k
  lo : ∀ k, s.own d k → w0.heap.size ≤ k
  lof : w0.heap.size ≤ f
  lor : ∀ k, x.v.ownBlock = some k → w0.heap.size ≤ k
  bel : Below w0.heap.size w0 w

theorem rnA : rn nmA = true := by decide
theorem atA (f : Nat) : (mA f).atKey (.string nmA.data.toList) .nil = .lit (.int .i64 f) := rfl

theorem wk_create (w0 w : World) (hb : Below w0.heap.size w0 w) (B : Nat) (hB : w0.heap.size ≤ B) (hI : IsDisk w (B + 3) (newSt 100 B)) :
    Calls Try.prog 33 #[.pointer (some ⟨B + 3, 0, none⟩), .string nmA] w fun e w' => e = .returned (.int .i64 0) ∧ ∃ f pv, Wk w0 w' (B + 3) f (wkS B f B pv 0 1 1 (.map []) [(ByteArray.empty, nmA, some ⟨f, 0, none⟩)]) ⟨.slice none 0 0, [], 0⟩ := by
  refine (create_new hI (by show (0 : Int) < 1000000000; omega) nmA rfl (by show 0 < 1000000000; omega) (by show 0 < 1000000000; omega) rnA (by decide) rfl).mono fun e w' ⟨he, f, pv, hf, hI', hfa, hpv, hk⟩ => ⟨he, f, pv, ?_⟩
  have lo0 : ∀ k, (newSt 100 B).own (B + 3) k → w0.heap.size ≤ k := fun k hk' => by
    rcases hk' with h | h | h | h | h
    · omega
    · exact h ▸ hB
    · exact h ▸ (show w0.heap.size ≤ B + 1 by omega)
    · exact h ▸ (show w0.heap.size ≤ B + 2 by omega)
    · cases h
  have hbs := hb.size
  refine ⟨hI', ⟨hfa, World.ownsRow_nil _ _ _ _⟩, fun k h => (by cases h), fun k hk' => ?_, by omega, fun k h => (by cases h), hb.trans (hk.toBelow hbs lo0)⟩
  rcases hk' with h | h | h | h | h
  · omega
  · exact h ▸ hB
  · exact h ▸ (show w0.heap.size ≤ B + 1 by omega)
  · exact h ▸ (show w0.heap.size ≤ B + 2 by omega)
  · have h' : pv.ownBlock = some k := h
    rcases hpv with e | ⟨g, e, hg⟩
    · rw [h'] at e
      cases e
    · rw [h'] at e
      cases e
      omega

theorem wk_alloc {w0 w : World} {d f : Nat} {s : St} {x : FileV} (h : Wk w0 w d f s x) (o : Obj) : Wk w0 (w.alloc o) d f s x :=
  ⟨h.disk.kept ((Kept.refl (fun _ => False) w).alloc o) (fun _ _ e => e), h.file.kept ((Kept.refl (fun _ => False) w).alloc o) (fun e => e) (fun _ _ e => e), h.row, h.lo, h.lof, h.lor, h.bel.alloc h.bel.size o⟩

theorem wk_append (w0 w : World) (fr : Nat × Nat) (B f : Nat) (pv : Value) (pend : List (ByteArray × ByteArray × Option Addr)) (h : Wk w0 w (B + 3) f (wkS B f B pv 0 1 1 (.map []) pend) ⟨.slice none 0 0, [], 0⟩) :
    Calls Try.prog 34 #[.pointer (some ⟨B + 3, 0, none⟩), .string nmA, .slice (some ⟨w.heap.size, 0, none⟩) 3 3] (w.alloc (.cells #[.int .u8 120, .int .u8 121, .int .u8 122] 5 fr)) fun e w' => e = .returned (.int .i64 0) ∧ ∃ v, Wk w0 w' (B + 3) f (wkS B f B pv 3 2 1 (.map []) pend) ⟨v, xyz, 0⟩ := by
  have h1 := wk_alloc h (.cells #[.int .u8 120, .int .u8 121, .int .u8 122] 5 fr)
  refine (append_ok h1.disk (by show (1 : Int) < 1000000000; omega) rfl nmA rnA (by decide) f (atA f) (.slice none 0 0) [] 0 h1.file h1.row ⟨w.heap.size, 0, none⟩ 3 3 xyz rfl (World.news_of_block (cs := #[.int .u8 120, .int .u8 121, .int .u8 122]) (t := 5) (fr := fr) (heap_alloc_new w _))
    (fun _ ho => ?_) (by simp) (by show (0 : Int) ≤ 100; omega) (by show (100 : Int) ≤ 1000000000000; omega) (by show (0 : Int) ≤ 0; omega) (by show (0 : Int) ≤ 1000000000000; omega) (Or.inl (by show (3 : Int) ≤ 100 - 0; omega))).mono fun e w' ⟨he, v, hf, hI, hv, hk⟩ => ⟨he, v, ?_⟩
  · have := h.disk.lt _ ho
    simp at this
  · have hsz := h1.bel.size
    refine ⟨hI, hf, fun k hk' ho => ?_, h.lo, h.lof, fun k hk' => ?_, h1.bel.trans (hk.toBelow hsz (fun i e => ?_))⟩
    · rcases hv with e | ⟨g, e, hg⟩
      · have hk2 : v.ownBlock = some k := hk'
        rw [e] at hk2
        cases hk2
      · have hk2 : v.ownBlock = some k := hk'
        rw [e] at hk2
        cases hk2
        have := h1.disk.lt _ ho
        omega
    · have hk2 : v.ownBlock = some k := hk'
      rcases hv with e | ⟨g, e, hg⟩
      · rw [e] at hk2
        cases hk2
      · rw [e] at hk2
        cases hk2
        omega
    · rcases e with e | e | e
      · exact h.lo i e
      · exact e ▸ h.lof
      · cases e

theorem wk_sync (w0 w : World) (B f : Nat) (pv : Value) (pend : List (ByteArray × ByteArray × Option Addr)) (v : Value) (h : Wk w0 w (B + 3) f (wkS B f B pv 3 2 1 (.map []) pend) ⟨v, xyz, 0⟩) :
    Calls Try.prog 35 #[.pointer (some ⟨B + 3, 0, none⟩), .string nmA] w fun e w' => e = .returned (.int .i64 0) ∧ Wk w0 w' (B + 3) f (wkS B f B pv 3 3 1 (.map []) pend) ⟨v, xyz, 3⟩ := by
  refine (sync_ok h.disk (by show (2 : Int) < 1000000000; omega) rfl nmA rnA (by decide) f (atA f) v xyz 0 h.file h.row).mono fun e w' ⟨he, hf, hI, hk⟩ => ⟨he, ⟨hI, hf, h.row, h.lo, h.lof, h.lor, h.bel.trans (hk.toBelow h.bel.size (fun i e => e.elim (h.lo i) (fun e => e ▸ h.lof)))⟩⟩

theorem okA (f : Nat) : OkCh (ByteArray.empty, nmA, some ⟨f, 0, none⟩) := ⟨by show ByteArray.empty.size ≤ 1000000; decide, by show nmA.size ≤ 1000000; decide, rfl⟩

theorem wk_syncDir (w0 w : World) (B f : Nat) (pv v : Value) (h : Wk w0 w (B + 3) f (wkS B f B pv 3 3 1 (.map []) [(ByteArray.empty, nmA, some ⟨f, 0, none⟩)]) ⟨v, xyz, 3⟩) :
    Calls Try.prog 36 #[.pointer (some ⟨B + 3, 0, none⟩)] w fun e w' => e = .returned (.int .i64 0) ∧ Wk w0 w' (B + 3) f (wkS B f B (.slice none 0 0) 3 4 2 (mA f) []) ⟨v, xyz, 3⟩ := by
  refine (syncDir_ok h.disk (by show (3 : Int) < 1000000000; omega) rfl (by show 1 + 1 < 1000000000; omega) (fun c hc => ?_)).mono fun e w' ⟨he, hI, hk⟩ => ⟨he, ?_⟩
  · have : c = (ByteArray.empty, nmA, some ⟨f, 0, none⟩) := by simpa [wkS] using hc
    exact this ▸ okA f
  · have eD : foldD (.map []) [(ByteArray.empty, nmA, some ⟨f, 0, none⟩)] = mA f := by
      simp [foldD]
      rw [doD_new rnA]
      rfl
    have hI2 : IsDisk w' (B + 3) (wkS B f B (.slice none 0 0) 3 4 2 (mA f) []) := by
      have e1 : (wkS B f B pv 3 3 1 (.map []) [(ByteArray.empty, nmA, some ⟨f, 0, none⟩)]).pend = [(ByteArray.empty, nmA, some ⟨f, 0, none⟩)] := rfl
      have e2 : (wkS B f B pv 3 3 1 (.map []) [(ByteArray.empty, nmA, some ⟨f, 0, none⟩)]).D = .map [] := rfl
      rw [e1, e2, eD] at hI
      exact hI
    have sub : ∀ k, (wkS B f B (.slice none 0 0) 3 4 2 (mA f) []).own (B + 3) k → (wkS B f B pv 3 3 1 (.map []) [(ByteArray.empty, nmA, some ⟨f, 0, none⟩)]).own (B + 3) k := fun k hk' => by
      rcases hk' with h | h | h | h | h
      · exact Or.inl h
      · exact Or.inr (Or.inl h)
      · exact Or.inr (Or.inr (Or.inl h))
      · exact Or.inr (Or.inr (Or.inr (Or.inl h)))
      · cases h
    refine ⟨hI2, h.file.kept hk (fun ho => ?_) (fun k hk' ho => h.row k hk' ho), fun k hk' ho => h.row k hk' (sub k ho), fun k hk' => h.lo k (sub k hk'), h.lof, h.lor, h.bel.trans (hk.toBelow h.bel.size h.lo)⟩
    rcases ho with e | e | e | e | e
    · exact h.file.ne_disk h.disk.at_ e
    · exact h.file.ne_map h.disk.mN e
    · exact h.file.ne_map h.disk.mD e
    · exact h.file.ne_map h.disk.mF e
    · exact h.file.ne_row h.disk.row (by decide) e

theorem wk_crash (w0 w : World) (B f : Nat) (v : Value) (h : Wk w0 w (B + 3) f (wkS B f B (.slice none 0 0) 3 4 2 (mA f) []) ⟨v, xyz, 3⟩) :
    Calls Try.prog 11 #[.pointer (some ⟨B + 3, 0, none⟩), .slice none 0 0] w fun e w' => e = .returned (.tuple #[]) ∧ ∃ nb v', IsDisk w' (B + 3) (wkS B f nb (.slice none 0 0) 3 4 2 (mA f) []) ∧ FileAt w' f v' xyz 3 ∧ Below w0.heap.size w0 w' := by
  have hF : Files w (B + 3) (wkS B f B (.slice none 0 0) 3 4 2 (mA f) []) [f] (fun _ => ⟨v, xyz, 3⟩) := by
    refine ⟨fun g hg => ?_, fun g hg => ?_, fun g hg g' hg' hne => ?_, fun g hg => ?_⟩
    · have : g = f := by simpa using hg
      exact this ▸ h.file
    · show 3 ≤ xyz.length
      decide
    · have e1 : g = f := by simpa using hg
      have e2 : g' = f := by simpa using hg'
      exact absurd (e1.trans e2.symm) hne
    · exact h.row
  have hfo : fileOf (mA f) [97] = f := fileOf_eq rfl
  have hC : CutsAt w (.slice none 0 0) [] := ⟨⟨none, 0, rfl⟩, fun j x hj => by simp at hj⟩
  have hts : [[97]] = risen (mA f) [] := by simp [risen, mA, strKeys, strOf, Lib.hasPrefix]
  refine (crash_any h.disk hF (.slice none 0 0) [] hC (fun _ _ _ _ _ hne => absurd rfl hne) (by show 2 + 0 < 1000000000; omega) (fun c hc => by cases hc) 0 rfl (fun x hx => ?_) (fun g _ => ?_) [[97]] hts).mono fun e w' ⟨he, nb, hnb, hI, hFn, hk⟩ => ⟨he, nb, cutV v 3, ?_, ?_, ?_⟩
  · refine ⟨f, by simp, ?_⟩
    have : x = [97] := by simpa [wkS, foldD, mA, strKeys, strOf] using hx
    subst this
    rfl
  · show xyz.length ≤ 1000000000
    decide
  · have hu : usedTo (foldD (mA f) []) [] [[97]] (fun _ => ⟨v, xyz, 3⟩) 1 = 3 := by
      show usedTo (mA f) [] [[97]] (fun _ => ⟨v, xyz, 3⟩) 1 = 3
      simp [usedTo, crashTo, hfo, FileV.crash, FileV.cut, cutN]
    have hI' : IsDisk w' (B + 3) ⟨100, usedTo (foldD (mA f) []) [] [[97]] (fun _ => ⟨v, xyz, 3⟩) 1, 4, -1, nb, B + 1, B + 2, .slice none 0 0, 2, mA f, mA f, .map [], []⟩ := hI
    rw [hu] at hI'
    exact hI'
  · have h2 : FileAt w' f (crashTo (mA f) [] [[97]] (fun _ => ⟨v, xyz, 3⟩) 1 f).v (crashTo (mA f) [] [[97]] (fun _ => ⟨v, xyz, 3⟩) 1 f).bs (crashTo (mA f) [] [[97]] (fun _ => ⟨v, xyz, 3⟩) 1 f).dur := hFn.at_ f (by simp)
    have e : crashTo (mA f) [] [[97]] (fun _ => ⟨v, xyz, 3⟩) 1 f = ⟨cutV v 3, xyz, 3⟩ := by simp [crashTo, hfo, FileV.crash, FileV.cut, cutN, xyz]
    rw [e] at h2
    exact h2
  · refine h.bel.trans (hk.toBelow h.bel.size (fun i e => ?_))
    rcases e with e | e
    · exact h.lo i e
    · have : i = f := by simpa using e
      exact this ▸ h.lof

set_option maxRecDepth 100000 in
set_option maxHeartbeats 2000000 in
theorem wakes_any (w : World) : Calls Try.prog 10 #[] w fun e w' => e = .returned (.bool true) ∧ Below w.heap.size w w' := by
  have hcv := fun (w : World) (C : Array Value) (n c : Nat) => Lib.run_convert_bytes_const (P := Try.prog) w 31 5 C n c Try.underlying31 Try.underlying5
  go_enter Try.func10, Try.ntmps10
  go_wp2_with (first
    | (go_at_call 5; refine (new_any 100 _).mono ?_; rintro e w1 ⟨rfl, hI1, hb1⟩)
    | (go_at_call 33; refine (wk_create w w1 hb1 w.heap.size (Nat.le_refl _) hI1).mono ?_; rintro e w2 ⟨rfl, f, pv, h2⟩)
    | (go_at_call 34; refine (wk_append w w2 _ _ f pv _ h2).mono ?_; rintro e w3 ⟨rfl, v, h3⟩)
    | (go_at_call 35; refine (wk_sync w w3 _ f pv _ v h3).mono ?_; rintro e w4 ⟨rfl, h4⟩)
    | (go_at_call 36; refine (wk_syncDir w w4 _ f pv v h4).mono ?_; rintro e w5 ⟨rfl, h5⟩)
    | (go_at_call 11; refine (wk_crash w w5 _ f v h5).mono ?_; rintro e w6 ⟨rfl, nb, v6, hI6, hf6, hb6⟩)
    | (go_at_call 13; refine (read_ok hI6 nmA (by decide) rnA f (atA f) v6 xyz 3 hf6 (by decide)).mono ?_; rintro e w7 ⟨v7, rfl, hr7, hb7⟩; have hstr := strOf_row hr7)
    | (go_at_call 29; refine (used_any (hI6.kept ((Kept.refl (fun _ => False) _).below hb7) (fun _ _ e => e))).mono ?_; rintro e w8 ⟨rfl, rfl⟩))
  go_ret
  exact ⟨rfl, hb6.trans (hb7.mono hb6.size)⟩

end Go.Proofs.Ytipakfdebccchaa

/- The pair at its start; the operations that come in. -/
namespace Go.Proofs.Ytipakfdebccchaa
open Go.RowKit Go.Maps Go.Sort

theorem RefIs.rebase {w : World} {r base base' : Nat} {a : RA} (h : RefIs w r base a) (hb : base' ≤ base) : RefIs w r base' a := by
  obtain ⟨s, hI, rfl, rfl⟩ := h
  exact ⟨{ s with base := base' }, ⟨Nat.le_trans hb hI.lo, hI.at_, row_base hI.rF hb, row_base hI.rD hb, row_base hI.rK hb, row_base hI.rP hb, row_base hI.rQ hb, hI.bytes, ⟨hI.sep.1, hI.sep.2⟩⟩, rfl, rfl⟩

theorem prog_new {w w1 : World} {cap : Int} (hI : IsDisk w1 (w.heap.size + 3) (newSt (max cap 0) w.heap.size)) : PIs w1 (w.heap.size + 3) w.heap.size 0 (RA.new cap).zone (RA.new cap) := by
  refine ⟨_, fun _ => ⟨.slice none 0 0, [], 0⟩, [], hI, ⟨fun f hf => (by cases hf), fun f hf => (by cases hf), fun f hf => (by cases hf), fun f hf => (by cases hf)⟩, List.nodup_nil, rfl, fun i hi => absurd hi (Nat.not_lt_zero i), rfl, rfl, rfl, ?_, ?_, rfl, rfl, ⟨isMap_empty, fun t _ => rfl, fun t _ => rfl⟩, Nat.zero_le _, fun i hi => ?_, fun f hf => (by cases hf), fun f hf => (by cases hf), fun b hb => False.elim hb⟩
  · exact ⟨isMap_empty, fun t => rfl, fun t => rfl⟩
  · exact ⟨isMap_empty, fun t => rfl, fun t => rfl⟩
  · rcases hi with rfl | rfl | rfl | rfl | hi
    · omega
    · exact Nat.le_refl _
    · show w.heap.size ≤ w.heap.size + 1
      omega
    · show w.heap.size ≤ w.heap.size + 2
      omega
    · cases hi

theorem start {w w1 w2 w3 : World} {cap : Int} (hcap : cap ≤ 9223372036854775807) (hI : IsDisk w1 (w.heap.size + 3) (newSt (max cap 0) w.heap.size)) (hb1 : Below w.heap.size w w1) (hR : RefIs w2 w1.heap.size w1.heap.size (RA.new cap)) (hb2 : Below w1.heap.size w1 w2) (hw : w3 = w2.alloc (.cells #[.pointer (some ⟨w.heap.size + 3, 0, none⟩), .pointer (some ⟨w1.heap.size, 0, none⟩)] 29)) :
    PW w3 w2.heap.size (w.heap.size + 3) w1.heap.size w.heap.size 0 (RA.new cap) ∧ Below w.heap.size w w3 ∧ w.heap.size ≤ w3.heap.size := by
  have hb3 : Below w2.heap.size w2 w3 := by rw [hw]; exact (Below.refl _ w2).alloc (Nat.le_refl _) _
  have h12 : Below w.heap.size w w2 := below_to hb1 hb2 hb1.size
  have h13 : Below w.heap.size w w3 := below_to h12 hb3 h12.size
  refine ⟨⟨?_, ((prog_new hI).below hb2).below hb3, (hR.below hb3).rebase hb1.size, Inv.new hcap⟩, h13, h13.size⟩
  rw [hw]
  exact heap_alloc_new w2 _

/-- An operation in memory. -/
structure OpAt (w : World) (b o : Nat) (x : OpV) : Prop where
  c0 : w.cell? ⟨b, o, none⟩ = some (.int .i64 x.act)
  c1 : w.cell? ⟨b, o + 1, none⟩ = some (.int .i64 x.n)
  c2 : w.cell? ⟨b, o + 2, none⟩ = some (.int .i64 x.k)
  c3 : w.cell? ⟨b, o + 3, none⟩ = some (.string x.name)
  c4 : w.cell? ⟨b, o + 4, none⟩ = some (.string x.dest)
  c5 : w.cell? ⟨b, o + 5, none⟩ = some x.bv
  c6 : w.cell? ⟨b, o + 6, none⟩ = some x.cv
  ok : OkOp w w.heap.size x
theorem OpAt.cells {w w' : World} {b o : Nat} {x : OpV} (h : OpAt w b o x) (hb : Below w.heap.size w w') (hlt : b < w.heap.size) : w'.cell? ⟨b, o, none⟩ = some (.int .i64 x.act) ∧ w'.cell? ⟨b, o + 1, none⟩ = some (.int .i64 x.n) ∧ w'.cell? ⟨b, o + 2, none⟩ = some (.int .i64 x.k) ∧ w'.cell? ⟨b, o + 3, none⟩ = some (.string x.name) ∧ w'.cell? ⟨b, o + 4, none⟩ = some (.string x.dest) ∧ w'.cell? ⟨b, o + 5, none⟩ = some x.bv ∧ w'.cell? ⟨b, o + 6, none⟩ = some x.cv := by
  have e : ∀ j, w'.cell? ⟨b, j, none⟩ = w.cell? ⟨b, j, none⟩ := fun j => hb.cell (p := ⟨b, j, none⟩) hlt
  exact ⟨(e _).trans h.c0, (e _).trans h.c1, (e _).trans h.c2, (e _).trans h.c3, (e _).trans h.c4, (e _).trans h.c5, (e _).trans h.c6⟩

end Go.Proofs.Ytipakfdebccchaa

/- DiskExact, walked. -/
namespace Go.Proofs.Ytipakfdebccchaa
open Go.RowKit Go.Maps Go.Sort

theorem ex_op {w wr : World} {p d r k : Nat} {a : RA} (h : PW wr p d r w.heap.size k a) (hk : k ≤ 999) (hb : Below w.heap.size w wr) (x : OpV) (hx : OkOp w w.heap.size x) :
    Calls Try.prog 7 #[.pointer (some ⟨p, 0, none⟩), .agg #[.int .i64 x.act, .int .i64 x.n, .int .i64 x.k, .string x.name, .string x.dest, x.bv, x.cv]] wr fun e w' => e = .returned (.bool true) ∧ ∃ a1, PW w' p d r w.heap.size (k + 1) a1 ∧ Below w.heap.size w w' :=
  (does_any h hk x hb.size (hx.below hb)).mono (fun _ _ ⟨he, _, _Z, h1, h2⟩ => ⟨he, _, h1, hb.trans h2⟩)

set_option maxRecDepth 100000 in
set_option maxHeartbeats 4000000 in
theorem exact_some (n : Int) (hn : n ≤ 9223372036854775807) (b off len cap : Nat) (fo : Nat → OpV) (w : World) (hlt : b < w.heap.size) (hop : ∀ i, i < len → OpAt w b (off + i * 7) (fo i)) :
    Calls Try.prog 3 #[.int .i64 n, .slice (some ⟨b, off, none⟩) len cap] w fun e w' => e = .returned (.bool true) ∧ Below w.heap.size w w' := by
  have HO : Hid (∀ i, i < len → OpAt w b (off + i * 7) (fo i)) := hop
  clear hop
  go_enter Try.func3, Try.ntmps3
  go_wp2_with (first
    | (go_at_call 5; refine (new_any n _).mono ?_; rintro e w1 ⟨rfl, hI1, hb1⟩)
    | (go_at_call 6; refine (refNew_is n _).mono ?_; rintro e w2 ⟨rfl, hR2, hb2⟩))
  have HN : Hid (_ ∧ _) := start hn hI1 hb1 hR2 hb2 rfl
  clear hI1 hb1 hR2 hb2
  generalize w1.heap.size = r at *
  generalize w2.heap.size = p at *
  generalize w.heap.size + 3 = d at *
  go_loopw [7] (fun i wr => ∃ (k : Nat) (a : RA), k ≤ len ∧ k ≤ 200 ∧ i = .int .i64 k ∧ PW wr p d r w.heap.size k a ∧ Below w.heap.size w wr) (fun i _ => 200 - (intOf i).toNat)
  case atStart => exact ⟨0, _, Nat.zero_le _, Nat.zero_le _, rfl, HN.out.1, HN.out.2.1⟩
  case round =>
    obtain ⟨k, a, hk, hk1, rfl, hN, hbr⟩ := hrel
    have HSM : Hid (Calls Try.prog 9 #[.pointer (some ⟨p, 0, none⟩)] wr fun e w' => e = .returned (.bool true) ∧ Below wr.heap.size wr w') := same_any hN (by omega)
    by_cases hlk : k < len
    · by_cases h200 : k < 200
      · have hbd : Below w.heap.size w wr.drew := hbr.drew
        have HX : Hid (Calls Try.prog 7 #[.pointer (some ⟨p, 0, none⟩), .agg #[.int .i64 (fo k).act, .int .i64 (fo k).n, .int .i64 (fo k).k, .string (fo k).name, .string (fo k).dest, (fo k).bv, (fo k).cv]] wr.drew fun e w' => e = .returned (.bool true) ∧ ∃ a1, PW w' p d r w.heap.size (k + 1) a1 ∧ Below w.heap.size w w') := ex_op (hN.below (Below.refl _ wr).drew) (by omega) hbd (fo k) (HO.out k hlk).ok
        obtain ⟨o0, o1, o2, o3, o4, o5, o6⟩ := (HO.out k hlk).cells hbr hlt
        have hok := (HO.out k hlk).ok
        generalize fo k = x at *
        obtain ⟨act, xn, xk, name, dest, bv, bs, cv, cs⟩ := x
        obtain ⟨ba, bc, e1, _, _⟩ := hok.bytes.1.shape
        obtain ⟨ca, cc, e2, _, _⟩ := hok.ints
        simp only at e1 e2 o0 o1 o2 o3 o4 o5 o6
        subst e1 e2
        clear hok hbd HSM hN
        go_wp2_with fail
        go_region_with (first
          | (go_at_call 7; refine HX.out.mono ?_; rintro e w3 ⟨rfl, a1, hP1, hb3⟩; obtain ⟨q0, q1, q2⟩ := hP1.cells)
          | (go_at_call 8; refine (T_ops hP1).mono ?_; rintro e w4 ⟨rfl, hw4⟩; subst hw4))
        all_goals
          go_wp2_with fail
          go_roundw
          case rel => exact ⟨k + 1, a1, by omega, by omega, by go_num, hP1, hb3⟩
          case measure => simp [intOf]; omega
      · have h200' : ¬ ((k : Int) < 200) := by omega
        go_wp2_with (first
          | (go_at_call 9; refine HSM.out.mono ?_; rintro e w5 ⟨rfl, hb5⟩)
          | (go_at_call 10; refine (wakes_any _).mono ?_; rintro e w6 ⟨rfl, hb6⟩))
        go_ret
        exact ⟨rfl, below_to (below_to hbr hb5 hbr.size) hb6 (below_to hbr hb5 hbr.size).size⟩
    · go_wp2_with (first
        | (go_at_call 9; refine HSM.out.mono ?_; rintro e w5 ⟨rfl, hb5⟩)
        | (go_at_call 10; refine (wakes_any _).mono ?_; rintro e w6 ⟨rfl, hb6⟩))
      go_ret
      exact ⟨rfl, below_to (below_to hbr hb5 hbr.size) hb6 (below_to hbr hb5 hbr.size).size⟩

set_option maxRecDepth 100000 in
set_option maxHeartbeats 4000000 in
theorem exact_zero (n : Int) (hn : n ≤ 9223372036854775807) (oa : Option Addr) (cap : Nat) (w : World) :
    Calls Try.prog 3 #[.int .i64 n, .slice oa 0 cap] w fun e w' => e = .returned (.bool true) ∧ Below w.heap.size w w' := by
  go_enter Try.func3, Try.ntmps3
  go_wp2_with (first
    | (go_at_call 5; refine (new_any n _).mono ?_; rintro e w1 ⟨rfl, hI1, hb1⟩)
    | (go_at_call 6; refine (refNew_is n _).mono ?_; rintro e w2 ⟨rfl, hR2, hb2⟩))
  have HN : Hid (_ ∧ _) := start hn hI1 hb1 hR2 hb2 rfl
  clear hI1 hb1 hR2 hb2
  generalize w1.heap.size = r at *
  generalize w2.heap.size = p at *
  generalize w.heap.size + 3 = d at *
  go_loopw [7] (fun i wr => i = .int .i64 0 ∧ ∃ (a : RA), PW wr p d r w.heap.size 0 a ∧ Below w.heap.size w wr) (fun _ _ => 0)
  case atStart => exact ⟨rfl, _, HN.out.1, HN.out.2.1⟩
  case round =>
    obtain ⟨rfl, a, hN, hbr⟩ := hrel
    have HSM : Hid (Calls Try.prog 9 #[.pointer (some ⟨p, 0, none⟩)] wr fun e w' => e = .returned (.bool true) ∧ Below wr.heap.size wr w') := same_any hN (by omega)
    go_wp2_with (first
      | (go_at_call 9; refine HSM.out.mono ?_; rintro e w5 ⟨rfl, hb5⟩)
      | (go_at_call 10; refine (wakes_any _).mono ?_; rintro e w6 ⟨rfl, hb6⟩))
    go_ret
    exact ⟨rfl, below_to (below_to hbr hb5 hbr.size) hb6 (below_to hbr hb5 hbr.size).size⟩

end Go.Proofs.Ytipakfdebccchaa
