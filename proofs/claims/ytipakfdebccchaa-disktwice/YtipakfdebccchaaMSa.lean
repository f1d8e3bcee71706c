/- Texts that belong together. -/
import Derived.Test.YtipakfdebccchaaMS3
import Derived.Test.YtipakfdebccchaaMW9
import Derived.Test.YtipakfdebccchaaME9
/- The document's cuts: the next number. -/
namespace Go.Proofs.Ytipakfdebccchaa
open Go.RowKit Go.Maps Go.Sort

set_option maxRecDepth 100000 in
set_option maxHeartbeats 1000000 in
/-- No number is left. -/
theorem refNext_none (w : World) (q : Nat) (a : Option Addr) (c : Nat) (n : Int) (h : w.cell? ⟨q, 0, none⟩ = some (.slice a 0 c)) :
    Calls Try.prog 43 #[.pointer (some ⟨q, 0, none⟩), .int .i64 n] w fun e w' => e = .returned (.int .i64 0) ∧ w' = w := by
  go_enter Try.func43, Try.ntmps43
  go_wp2
  go_ret
  exact ⟨rfl, rfl⟩

/-- Where the rest of a slice of numbers begins. -/
def restV (b o l c : Nat) : Value := .slice (some (if c = 1 then ⟨b, o, none⟩ else ⟨b, o + 1, none⟩)) (l - 1) (c - 1)

theorem emod_of_tmod (x : Int) (n : Int) (hn : 0 < n) : (if x.tmod n < 0 then x.tmod n + n else x.tmod n) = x % n := by
  have h := tmod_twice x n hn
  have h1 := Int.lt_tmod_of_pos x hn
  have h2 := Int.tmod_lt_of_pos x hn
  rw [← h]
  generalize x.tmod n = t at *
  clear h
  split
  · rw [Int.tmod_eq_of_lt (by omega) (by omega)]
  · rw [Int.tmod_eq_emod_of_nonneg (by omega), Int.add_emod_right, Int.emod_eq_of_lt (by omega) (by omega)]

set_option maxRecDepth 100000 in
set_option maxHeartbeats 2000000 in
theorem refNext_some (w : World) (q b o l c : Nat) (x : Int) (most : Nat) (h : w.cell? ⟨q, 0, none⟩ = some (.slice (some ⟨b, o, none⟩) l c)) (hfr : w.frozen? ⟨q, 0, none⟩ = false) (hx : w.cell? ⟨b, o, none⟩ = some (.int .i64 x)) (hl : 1 ≤ l) (hlc : l ≤ c) (hc : c ≤ maxLen) (hmb : most ≤ 1000000000000) :
    Calls Try.prog 43 #[.pointer (some ⟨q, 0, none⟩), .int .i64 ((most : Int) + 1)] w fun e w' => e = .returned (.int .i64 (x % ((most : Int) + 1))) ∧ w' = w.setCell ⟨q, 0, none⟩ (restV b o l c) := by
  have t1 := Int.lt_tmod_of_pos x (show (0 : Int) < (most : Int) + 1 by omega)
  have t2 := Int.tmod_lt_of_pos x (show (0 : Int) < (most : Int) + 1 by omega)
  have HE := emod_of_tmod x ((most : Int) + 1) (by omega)
  have hmx : (c : Int) ≤ 9223372036854775807 := by unfold maxLen at hc; omega
  have hl0 : (0 : Int) < (l : Int) := by omega
  have hl1 : (1 : Int) ≤ (l : Int) := by omega
  have hl2 : ((l : Int) == 0) = false := beq_eq_false_iff_ne.2 (by omega)
  have hl3 : decide ((l : Int) = 0) = false := decide_eq_false (by omega)
  have hlc' : (l : Int) ≤ (c : Int) := by omega
  have HE' : Hid ((if x.tmod ((most : Int) + 1) < 0 then x.tmod ((most : Int) + 1) + ((most : Int) + 1) else x.tmod ((most : Int) + 1)) = x % ((most : Int) + 1)) := HE
  clear HE
  by_cases hc1 : c = 1
  · subst hc1
    have e : l = 1 := by omega
    subst e
    have HV : Hid (restV b o 1 1 = .slice (some ⟨b, o, none⟩) 0 0) := rfl
    by_cases hn : x.tmod ((most : Int) + 1) < 0
    · rw [if_pos hn] at HE'
      rw [← HE'.out, HV.out]
      go_enter Try.func43, Try.ntmps43
      go_wp2
      go_ret
      exact ⟨rfl, rfl⟩
    · rw [if_neg hn] at HE'
      rw [← HE'.out, HV.out]
      go_enter Try.func43, Try.ntmps43
      go_wp2
      go_ret
      exact ⟨rfl, rfl⟩
  · have HV : Hid (restV b o l c = .slice (some ⟨b, o + 1, none⟩) (l - 1) (c - 1)) := by show _ = _; unfold restV; rw [if_neg hc1]
    by_cases hn : x.tmod ((most : Int) + 1) < 0
    · rw [if_pos hn] at HE'
      rw [← HE'.out, HV.out]
      go_enter Try.func43, Try.ntmps43
      go_wp2
      go_ret
      exact ⟨rfl, rfl⟩
    · rw [if_neg hn] at HE'
      rw [← HE'.out, HV.out]
      go_enter Try.func43, Try.ntmps43
      go_wp2
      go_ret
      exact ⟨rfl, rfl⟩

end Go.Proofs.Ytipakfdebccchaa

/- The document's cuts, one behind the other; a file cut. -/
namespace Go.Proofs.Ytipakfdebccchaa
open Go.RowKit Go.Maps Go.Sort

/-- A slice that reads as these numbers. -/
def IntsAt (w : World) (v : Value) (xs : List Int) : Prop :=
  ∃ a c, v = .slice a xs.length c ∧ (xs.length ≤ c ∧ c ≤ maxLen) ∧ ∀ j (hj : j < xs.length), ∃ b o, a = some ⟨b, o, none⟩ ∧ b < w.heap.size ∧ w.cell? ⟨b, o + j, none⟩ = some (.int .i64 xs[j])
theorem IntsAt.kept {w w' : World} {v : Value} {xs : List Int} (h : IntsAt w v xs) {O : Nat → Prop} (k : Kept O w w') (hO : ∀ b, v.ownBlock = some b → xs ≠ [] → ¬ O b) : IntsAt w' v xs := by
  obtain ⟨a, c, rfl, h1, h2⟩ := h
  refine ⟨a, c, rfl, h1, fun j hj => ?_⟩
  obtain ⟨b, o, rfl, h3, h4⟩ := h2 j hj
  refine ⟨b, o, rfl, Nat.lt_of_lt_of_le h3 k.size, ?_⟩
  rw [World.cell?_of_block (w := w) (w' := w') (a := ⟨b, o + j, none⟩) (k.block b h3 (hO b rfl (fun e => by subst e; simp at hj)))]
  exact h4
theorem IntsAt.cuts {w : World} {v : Value} {xs : List Int} (h : IntsAt w v xs) : CutsAt w v xs := by
  obtain ⟨a, c, rfl, h1, h2⟩ := h
  refine ⟨⟨a, c, rfl⟩, fun j x hj => ?_⟩
  obtain ⟨hj1, hj2⟩ := List.getElem?_eq_some_iff.1 hj
  obtain ⟨b, o, rfl, _, h4⟩ := h2 j hj1
  exact ⟨b, o, _, _, rfl, by rw [h4, hj2]⟩

/-- The numbers that are left lie at q. -/
def NextAt (w : World) (q base : Nat) (cs : List Int) (i : Nat) : Prop := base ≤ q ∧ ∃ sv, w.heap[q]? = some (.cells #[sv] 82) ∧ IntsAt w sv (cs.drop i) ∧ ∀ b, sv.ownBlock = some b → cs ≠ [] → b < base
theorem NextAt.kept {w w' : World} {q base : Nat} {cs : List Int} {i : Nat} (h : NextAt w q base cs i) {O : Nat → Prop} (k : Kept O w w') (h1 : ¬ O q) (hO : ∀ b, b < base → ¬ O b) : NextAt w' q base cs i := by
  obtain ⟨h0, sv, h2, h3, h4⟩ := h
  exact ⟨h0, sv, k.heap h2 h1, h3.kept k (fun b hb hne => hO b (h4 b hb (fun e => hne (by rw [e]; simp)))), h4⟩

theorem refNext_any {w : World} {q base : Nat} {cs : List Int} {i : Nat} (h : NextAt w q base cs i) (most : Nat) (hmb : most ≤ 1000000000000) :
    Calls Try.prog 43 #[.pointer (some ⟨q, 0, none⟩), .int .i64 ((most : Int) + 1)] w fun e w' => e = .returned (.int .i64 (cutN cs i most : Nat)) ∧ NextAt w' q base cs (i + 1) ∧ Kept (fun k => k = q) w w' := by
  obtain ⟨hqb, sv, h1, h2, h3⟩ := h
  obtain ⟨a, c, rfl, h4, h5⟩ := id h2
  have hq : w.cell? ⟨q, 0, none⟩ = some (.slice a (cs.drop i).length c) := by rw [cell_of_heap h1]; rfl
  by_cases hi : i < cs.length
  · have hlen : (cs.drop i).length = cs.length - i := List.length_drop
    obtain ⟨b, o, rfl, hb, hx⟩ := h5 0 (by omega)
    have e0 : (cs.drop i)[0]'(by omega) = cs[i] := by simp
    rw [e0, Nat.add_zero] at hx
    have hcut : (cutN cs i most : Int) = cs[i] % ((most : Int) + 1) := by
      unfold cutN
      rw [List.getElem?_eq_getElem hi]
      simp only
      have := Int.emod_nonneg cs[i] (show (most : Int) + 1 ≠ 0 by omega)
      omega
    refine (refNext_some w q b o _ c cs[i] most hq (frozen_of_heap h1) hx (by omega) h4.1 h4.2 hmb).mono ?_
    rintro e w' ⟨rfl, rfl⟩
    have hbq : cs ≠ [] → b ≠ q := fun hne e => by have := h3 b rfl hne; omega
    have hne : cs ≠ [] := fun e => by subst e; simp at hi
    have k : Kept (fun k => k = q) w (w.setCell ⟨q, 0, none⟩ (restV b o (cs.drop i).length c)) := (Kept.refl (fun k => k = q) w).setCell (p := ⟨q, 0, none⟩) (fun _ => rfl) _
    have hh := heap_setCell_same (i := 0) h1 (restV b o (cs.drop i).length c)
    generalize w.setCell ⟨q, 0, none⟩ (restV b o (cs.drop i).length c) = W at *
    refine ⟨by rw [hcut], ⟨hqb, _, hh, ?_, fun b' hb' _ => ?_⟩, k⟩
    · unfold restV
      refine ⟨_, c - 1, by rw [List.length_drop, List.length_drop]; congr 1, ⟨by rw [List.length_drop]; omega, by omega⟩, fun j hj => ?_⟩
      have hj' : j < cs.length - (i + 1) := by rw [List.length_drop] at hj; exact hj
      obtain ⟨b2, o2, e2, hb2, hx2⟩ := h5 (j + 1) (by omega)
      cases e2
      have hc1 : ¬ c = 1 := by omega
      rw [if_neg hc1]
      refine ⟨b, o + 1, rfl, Nat.lt_of_lt_of_le hb2 k.size, ?_⟩
      rw [show o + 1 + j = o + (j + 1) by omega, World.cell?_of_block (w := w) (a := ⟨b, o + (j + 1), none⟩) (k.block b hb2 (hbq hne)), hx2]
      simp [Nat.add_assoc, Nat.add_comm 1 j]
    · unfold restV at hb'
      split at hb' <;> (simp [Value.ownBlock] at hb'; subst hb'; exact h3 b rfl hne)
  · have e0 : cs.drop i = [] := List.drop_of_length_le (by omega)
    have hq' : w.cell? ⟨q, 0, none⟩ = some (.slice a 0 c) := by rw [hq, e0]; rfl
    refine (refNext_none w q a c _ hq').mono ?_
    rintro e w' ⟨rfl, rfl⟩
    have hcut : cutN cs i most = 0 := by
      unfold cutN
      rw [List.getElem?_eq_none (by omega)]
    refine ⟨by rw [hcut]; rfl, ⟨hqb, _, h1, ?_, h3⟩, Kept.refl _ _⟩
    have e1 : cs.drop (i + 1) = [] := List.drop_of_length_le (by omega)
    rw [e0] at h2
    rw [e0, e1]
    exact h2

/-- A file's bytes cut, with all that is left durable. -/
def capV (v : Value) (k : Nat) : Value := match v with
  | .slice a _ _ => .slice a k k
  | v => v
theorem capV_block (v : Value) (k : Nat) : (capV v k).ownBlock = v.ownBlock := by
  cases v <;> try rfl
  rename_i a n c
  cases a <;> rfl
theorem BytesAt.capped {w : World} {v : Value} {bs : List UInt8} (h : BytesAt w v bs) {k : Nat} (hk : k ≤ bs.length) : BytesAt w (capV v k) (bs.take k) := by
  have hl : (bs.take k).length = k := by rw [List.length_take]; omega
  rcases h with ⟨rfl, rfl⟩ | ⟨ad, c, rfl, h1, h2, h3⟩
  · have : k = 0 := by simpa using hk
    subst this
    exact Or.inl ⟨rfl, rfl⟩
  · refine Or.inr ⟨ad, k, by rw [hl]; rfl, by omega, by omega, fun j u hj => h3 j u ?_⟩
    rw [byteVals_take, List.getElem?_take] at hj
    split at hj
    · exact hj
    · cases hj

theorem rfCells_set2 (l : List (Value × List UInt8 × Int)) (m : Nat) (hm : m < l.length) (v : Value) (bs : List UInt8) (n : Int) : ((rfCells l).set (m * 2) v).set (m * 2 + 1) (.int .i64 n) = rfCells (l.set m (v, bs, n)) := by
  rw [rfCells_set l m hm v bs, rfCells_set1 _ m (by rw [List.length_set]; exact hm)]
  simp

theorem IsRef.cutAt {w : World} {r : Nat} {s : RSt} (h : IsRef w r s) {m g c : Nat} (hm : m < s.files.length) (hg : s.fv = .slice (some ⟨g, 0, none⟩) s.files.length c) {k : Nat} (hk : k ≤ s.files[m].2.1.length) :
    IsRef ((w.setCell ⟨g, m * 2, none⟩ (capV s.files[m].1 k)).setCell ⟨g, m * 2 + 1, none⟩ (.int .i64 k)) r { s with files := s.files.set m (capV s.files[m].1 k, s.files[m].2.1.take k, (k : Int)) } ∧ KT (refS s.base) w ((w.setCell ⟨g, m * 2, none⟩ (capV s.files[m].1 k)).setCell ⟨g, m * 2 + 1, none⟩ (.int .i64 k)) := by
  have hgb : s.fv.ownBlock = some g := by rw [hg]; rfl
  have k2 : KT (oneS s.base 93) w ((w.setCell ⟨g, m * 2, none⟩ (capV s.files[m].1 k)).setCell ⟨g, m * 2 + 1, none⟩ (.int .i64 k)) := by
    obtain ⟨cs, fr, e⟩ := row_block h.rF hgb
    have hp : Ty (oneS s.base 93) w g := ⟨_, _, _, e, by simp [oneS, (h.rF.lt g hgb).1]⟩
    exact ((Kept.refl _ w).setCell (p := ⟨g, m * 2, none⟩) (fun _ => hp) _).setCell (p := ⟨g, m * 2 + 1, none⟩) (fun _ => hp) _
  refine ⟨⟨h.lo, k2.heap h.at_ (noS rfl), ?_, k2.ownsRow h.rD (noS rfl), k2.ownsRow h.rK (noS rfl), k2.ownsRow h.rP (noS rfl), k2.ownsRow h.rQ (noS rfl), ?_, ?_⟩, k2.ref rfl⟩
  · have h1 := ownsRow_set h.rF hgb (i := m * 2) (by rw [h.rF.1]; omega) (capV s.files[m].1 k)
    have h2 := ownsRow_set h1 hgb (i := m * 2 + 1) (by rw [h1.1]; omega) (.int .i64 (k : Int))
    rw [rfCells_set2 s.files m hm _ (s.files[m].2.1.take k)] at h2
    simp only [List.length_set]
    exact h2
  · intro x hx
    rcases List.mem_or_eq_of_mem_set hx with hx | rfl
    · exact k2.rb (h.bytes x hx) (noS rfl)
    · have hb := h.bytes s.files[m] (List.getElem_mem hm)
      exact k2.rb ⟨hb.at_.capped hk, fun b hb' => hb.blk b (by rw [capV_block] at hb'; exact hb')⟩ (noS rfl)
  · refine ⟨fun b hb => Nat.lt_of_lt_of_le (h.sep.1 b hb) k2.size, fun x hx b hb => ?_⟩
    rcases List.mem_or_eq_of_mem_set hx with hx | rfl
    · exact h.sep.2 x hx b hb
    · rw [capV_block] at hb
      exact h.sep.2 s.files[m] (List.getElem_mem hm) b hb

/-- The files, when the first names have been gone through. -/
def crashF (dir : List (ByteArray × Int)) (cs : List Int) (names : List (List UInt8)) (files : List (List UInt8 × Int)) : Nat → List (List UInt8 × Int)
  | 0 => files
  | k + 1 =>
    let F := crashF dir cs names files k
    let m := ((lookD dir (names.getD k [])).getD 0).toNat
    let x := F.getD m ([], 0)
    let n := x.2.toNat + cutN cs (k + 1) (x.1.length - x.2.toNat)
    F.set m (x.1.take n, (n : Int))
theorem crashF_length (dir : List (ByteArray × Int)) (cs : List Int) (names : List (List UInt8)) (files : List (List UInt8 × Int)) : ∀ k, (crashF dir cs names files k).length = files.length
  | 0 => rfl
  | k + 1 => by
    simp only [crashF, List.length_set]
    exact crashF_length dir cs names files k
def RA.crashDir (a : RA) (cs : List Int) : List (ByteArray × Int) := foldL a.kept (a.pend.take (cutN cs 0 a.pend.length))
def RA.crash (a : RA) (cs : List Int) : RA := { a with files := crashF (a.crashDir cs) cs (namesL (a.crashDir cs) []) a.files (namesL (a.crashDir cs) []).length, dir := a.crashDir cs, kept := a.crashDir cs, pend := [], faults := [], stop := -1 }

end Go.Proofs.Ytipakfdebccchaa
