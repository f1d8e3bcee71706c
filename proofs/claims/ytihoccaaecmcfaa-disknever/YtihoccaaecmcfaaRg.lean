/- The document's disk is filled; what holds of a stopped pair in each round. -/
import Derived.Test.YtihoccaaecmcfaaRf
namespace Go.Proofs.Ytihoccaaecmcfaa
open Go.RowKit Go.Maps Go.Sort
open Go.WideMaps Go.WideElems

def rS1 (base : Nat) (fv dv pv : Value) : RSt := ⟨base, 1000, -1, 1, fv, dv, .slice none 0 0, pv, .slice none 0 0, [(.slice none 0 0, [], 0)], [(nmA, 0)], [], [(1, ByteArray.empty, nmA, 0)], []⟩

theorem stands_none {name : ByteArray} {i : Int} (h : Stands [] name i) : i < 0 := by
  rcases h with ⟨k, hk, _⟩ | ⟨e, _⟩
  · simp at hk
  · omega
theorem stands_one {name : ByteArray} {f i : Int} (h : Stands [(name, f)] name i) : i = (0 : Nat) := by
  rcases h with ⟨k, hk, e, _⟩ | ⟨_, e⟩
  · simp at hk
    subst hk
    exact e
  · have := e 0 (by simp)
    simp at this

theorem n_refCreate {w : World} {r : Nat} (h : IsRef w r (rS0 r)) :
    Calls Try.prog 22 #[.pointer (some ⟨r, 0, none⟩), .string nmA] w fun e w' => e = .returned (.int .i64 0) ∧ ∃ fv dv pv, IsRef w' r (rS1 r fv dv pv) ∧ KT (refS r) w w' := by
  refine (refCreate_new (s := { rS0 r with cnt := 0 + 1 }) (st := 0) nmA (refBegin_calm h rfl rfl (by show (0 : Int) ≤ 0; omega) (by show (0 : Int) < 1000000000; omega)) (by decide) rnA (fun i hi => stands_none hi) (by show 0 ≤ 1000000000; omega) (by show 0 ≤ 1000000000; omega) (by show 0 ≤ 1000000000; omega)).mono ?_
  rintro e w' ⟨he, fv, dv, pv, hI, hk⟩
  exact ⟨he, fv, dv, pv, hI, hk⟩

theorem n_refAppend {w : World} {fr : Nat × Nat} {r : Nat} {fv dv pv : Value} (h : IsRef w r (rS1 r fv dv pv)) :
    Calls Try.prog 23 #[.pointer (some ⟨r, 0, none⟩), .string nmA, .slice (some ⟨w.heap.size, 0, none⟩) 2 2] (w.alloc (.cells #[.int .u8 120, .int .u8 121] 5 fr)) fun e w' => e = .returned (.int .i64 0) ∧ ∃ v, IsRef w' r (({ rS1 r fv dv pv with cnt := 1 + 1 } : RSt).addTo 0 v xy) ∧ KT (refS r) w w' := by
  have h1 : IsRef (w.alloc (.cells #[.int .u8 120, .int .u8 121] 5 fr)) r (rS1 r fv dv pv) := h.kept ((Kept.refl (fun _ => False) w).alloc _) id (fun _ _ _ _ => id)
  have hb : RB (w.alloc (.cells #[.int .u8 120, .int .u8 121] 5 fr)) (.slice (some ⟨w.heap.size, 0, none⟩) 2 2) xy := ⟨Or.inr ⟨⟨w.heap.size, 0, none⟩, 2, rfl, by decide, by decide, World.news_of_block (cs := #[.int .u8 120, .int .u8 121]) (t := 5) (fr := fr) (heap_alloc_new w _)⟩, fun b hb => by
    simp [Value.ownBlock] at hb
    subst hb
    exact ⟨_, _, heap_alloc_new w _⟩⟩
  refine (refAppend_ok (s := { rS1 r fv dv pv with cnt := 1 + 1 }) nmA (refBegin_calm h1 rfl rfl (by show (0 : Int) ≤ 1; omega) (by show (1 : Int) < 1000000000; omega)) (by decide) rnA 0 0 (by show 0 < 1; omega) (fun i hi => stands_one hi) rfl (by show 0 < 1; omega) (by show 1 ≤ 1000000000; omega) (by show 1 ≤ 1000000000; omega) ?_ (by show 0 ≤ 1000000000000; omega) (by show (0 : Int) ≤ 1000; omega) (by show (1000 : Int) ≤ 9223372036854775807; omega) [] rfl _ xy hb (by decide) (by show (2 : Int) ≤ 1000 - 0; omega) (by show 0 + 2 ≤ 1000000000; omega)).mono ?_
  · intro e he
    have : e = (nmA, 0) := by simpa [rS1] using he
    subst this
    exact ⟨0, rfl, by show 0 < 1; omega⟩
  · rintro e w' ⟨he, ⟨v, hI⟩, hk⟩
    exact ⟨he, v, hI, KT.trans (S := refS r) ((Kept.refl _ w).alloc _) hk⟩

/-- The pair in a round: k operations were refused. -/
structure Nv (w0 w : World) (d f r p : Nat) (s : St) (v : Value) (cap : Int) (fv dv kv pv : Value) (dir : List (ByteArray × Int)) (k : Nat) : Prop where
  dead : Dead w d f r p s v cap fv dv kv pv dir (2 + k)
  N : s.N = mA f
  used : s.used = 2
  n : s.n = 1
  ops : s.ops = 2 + k
  dl : dir.length ≤ 1000000000
  lod : w0.heap.size ≤ d
  lof : w0.heap.size ≤ s.fb
  lor : w0.heap.size ≤ r
  bel : Below w0.heap.size w0 w

theorem Nv.next {w0 w w' : World} {d f r p : Nat} {s : St} {v : Value} {cap : Int} {fv dv kv pv : Value} {dir : List (ByteArray × Int)} {k : Nat} (h : Nv w0 w d f r p s v cap fv dv kv pv dir k) (hd : Dead w' d f r p s.begun v cap fv dv kv pv dir (2 + k + 1)) (hb : Below w0.heap.size w0 w') : Nv w0 w' d f r p s.begun v cap fv dv kv pv dir (k + 1) :=
  ⟨by have e : (2 + (k : Int) + 1) = 2 + ((k + 1 : Nat) : Int) := by omega
      rw [e] at hd
      exact hd, h.N, h.used, h.n, by show s.ops + 1 = _; rw [h.ops]; omega, h.dl, h.lod, h.lof, h.lor, hb⟩

section
variable {w0 w : World} {d f r p : Nat} {s : St} {v : Value} {cap : Int} {fv dv kv pv : Value} {dir : List (ByteArray × Int)} {k : Nat} (h : Nv w0 w d f r p s v cap fv dv kv pv dir k)
include h

theorem Nv.below {w' : World} (hb : Below w.heap.size w w') : Nv w0 w' d f r p s v cap fv dv kv pv dir k :=
  ⟨h.dead.same ((Kept.refl (fun _ => False) w).below hb) (fun _ e => e.elim), h.N, h.used, h.n, h.ops, h.dl, h.lod, h.lof, h.lor, h.bel.trans (hb.mono h.bel.size)⟩

theorem Nv.op (hk : k < 1000) {W : World} (hW : Kept (fun _ => False) w W) (x : OpV) {b o : Nat} (hx : OpAt w0 b o x) :
    Calls Try.prog 26 #[.pointer (some ⟨p, 0, none⟩), .agg #[.int .i64 (x.act % 6), .int .i64 x.n, .int .i64 x.k, .string x.name, .string x.dest, x.bv, x.cv]] W fun e w' => e = .returned (.bool true) ∧ Nv w0 w' d f r p s.begun v cap fv dv kv pv dir (k + 1) := by
  have hops := h.ops
  have hm := Int.emod_nonneg x.act (show (6 : Int) ≠ 0 by omega)
  have hm' := Int.emod_lt_of_pos x.act (show (0 : Int) < 6 by omega)
  have hlod := h.lod
  have hlof := h.lof
  have hlor := h.lor
  refine (op_any (h.dead.same hW (fun _ e => e.elim)) x (by omega) (by omega) h.dl (x.act % 6) hm (by omega) ((hx.bytes.below h.bel).kept hW (fun _ _ _ e => e)) (fun b' hb' hne e => ?_)).mono fun e w' ⟨he, hD, hK⟩ => ⟨he, h.next hD ?_⟩
  · have := hx.low b' hb' hne
    rcases e with e | e | e <;> omega
  · refine h.bel.trans (((hW.mono (fun _ _ e => e.elim)).trans (O := fun k => k = d ∨ k = s.fb ∨ k = r) hK (fun _ _ e => e)).toBelow h.bel.size (fun i e => ?_))
    rcases e with e | e | e <;> omega

theorem Nv.read : Calls Try.prog 19 #[.pointer (some ⟨d, 0, none⟩), .string nmA] w fun e w' => ∃ v', e = .returned (.tuple #[v', .int .i64 0]) ∧ w'.ownsRow w.heap.size 5 1 v' 2 (byteVals xy) ∧ Nv w0 w' d f r p s v cap fv dv kv pv dir k := by
  refine (read_ok h.dead.disk nmA (by decide) rnA f (by rw [h.N]; exact atA f) v xy 0 h.dead.file (by decide)).mono fun e w' ⟨v', he, ho, hb⟩ => ⟨v', he, ho, h.below hb⟩

theorem Nv.list : Calls Try.prog 27 #[.pointer (some ⟨d, 0, none⟩), .string ByteArray.empty] w fun e w' => ∃ a c, e = .returned (.slice a 1 c) ∧ Nv w0 w' d f r p s v cap fv dv kv pv dir k := by
  refine (list_any h.dead.disk ByteArray.empty (by rw [h.n]; omega)).mono fun e w' ⟨v', he, ho, hb⟩ => ?_
  have hr : risen s.N ByteArray.empty.data.toList = [[97]] := by
    rw [h.N]
    show risen (mA f) [] = [[97]]
    simp [risen, mA, strKeys, strOf, Lib.hasPrefix]
  rw [hr] at ho
  obtain ⟨a, c, rfl⟩ := slice_of_row ho
  exact ⟨a, c, he, h.below hb⟩

theorem Nv.tells : Calls Try.prog 28 #[.pointer (some ⟨d, 0, none⟩)] w fun e w' => e = .returned (.int .i64 2) ∧ w' = w := by
  have := used_any h.dead.disk
  rw [h.used] at this
  exact this
end

end Go.Proofs.Ytihoccaaecmcfaa
