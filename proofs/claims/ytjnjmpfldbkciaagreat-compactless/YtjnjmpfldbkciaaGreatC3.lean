/- Pieces that are gone, and series, as lists in memory. -/
import Derived.Test.YtjnjmpfldbkciaaGreatC2
import Derived.Test.YtjnjmpfldbkciaaGreatB9
import Derived.Test.YtjnjmpfldbkciaaGreatYc
namespace Go.Proofs.YtjnjmpfldbkciaaGreat
open Go.RowKit Go.Maps

section
variable {α : Type} (f : α → List Value) (n : Nat) (hf : ∀ x, (f x).length = n)
include hf
theorem flat_len (l : List α) : (l.flatMap f).length = l.length * n := by
  induction l with
  | nil => simp
  | cons c r ih => rw [List.flatMap_cons, List.length_append, hf, ih, List.length_cons, Nat.succ_mul]; omega
theorem flat_at (l : List α) (k : Nat) (hk : k < l.length) (j : Nat) (hj : j < n) : (l.flatMap f)[k * n + j]? = (f l[k])[j]? := by
  induction l generalizing k with
  | nil => simp at hk
  | cons a r ih =>
    rw [List.flatMap_cons]
    cases k with
    | zero => rw [Nat.zero_mul, Nat.zero_add, List.getElem?_append_left (by rw [hf]; exact hj)]; rfl
    | succ k =>
      rw [List.getElem?_append_right (by rw [hf, Nat.succ_mul]; omega), hf, show (k + 1) * n + j - n = k * n + j by rw [Nat.succ_mul]; omega, ih k (by simpa using hk)]
      rfl
end

structure Gn where
  v : Value
  ls : List Lb
  lo : Int
  hi : Int
def Gn.p (g : Gn) : PG := (g.ls, g.lo, g.hi)
def gnV (g : Gn) : List Value := [g.v, .int .i64 g.lo, .int .i64 g.hi]
def gnC (l : List Gn) : List Value := l.flatMap gnV
theorem gnC_length (l : List Gn) : (gnC l).length = l.length * 3 := flat_len gnV 3 (fun _ => rfl) l
theorem gnC_append (l m : List Gn) : gnC (l ++ m) = gnC l ++ gnC m := by simp [gnC]
theorem gnC_one (g : Gn) : gnC [g] = [g.v, .int .i64 g.lo, .int .i64 g.hi] := rfl
theorem gnC_at (l : List Gn) (k : Nat) (hk : k < l.length) : (gnC l)[k * 3]? = some l[k].v ∧ (gnC l)[k * 3 + 1]? = some (.int .i64 l[k].lo) ∧ (gnC l)[k * 3 + 2]? = some (.int .i64 l[k].hi) :=
  ⟨flat_at gnV 3 (fun _ => rfl) l k hk 0 (by decide), flat_at gnV 3 (fun _ => rfl) l k hk 1 (by decide), flat_at gnV 3 (fun _ => rfl) l k hk 2 (by decide)⟩

/-- A piece that lies in memory. -/
structure GOk (w : World) (g : Gn) : Prop where
  lab : LbAt w g.v g.ls
  few : g.ls.length ≤ 64
  lo1 : -9223372036854775808 ≤ g.lo
  lo2 : g.lo ≤ 9223372036854775807
  hi1 : -9223372036854775808 ≤ g.hi
  hi2 : g.hi ≤ 9223372036854775807
theorem LbAt.below {w w' : World} {v : Value} {l : List Lb} (h : LbAt w v l) (hb : Below w.heap.size w w') : LbAt w' v l := RowAt.below h hb
theorem SmAt.below {w w' : World} {v : Value} {l : List Sm} (h : SmAt w v l) (hb : Below w.heap.size w w') : SmAt w' v l := RowAt.below h hb
theorem GOk.below {w w' : World} {g : Gn} (h : GOk w g) (hb : Below w.heap.size w w') : GOk w' g := ⟨h.lab.below hb, h.few, h.lo1, h.lo2, h.hi1, h.hi2⟩
theorem GOk.one {w : World} {g : Gn} (h : GOk w g) : ∀ u ∈ gnV g, u.oneCell' = true := fun u hu => by
  obtain ⟨a, c, e, -⟩ := h.lab
  simp [gnV, e] at hu
  rcases hu with rfl | rfl | rfl <;> rfl
def GnAt (w : World) (v : Value) (l : List Gn) : Prop := RowAt w v 3 l.length (gnC l) ∧ ∀ g ∈ l, GOk w g
theorem GnAt.below {w w' : World} {v : Value} {l : List Gn} (h : GnAt w v l) (hb : Below w.heap.size w w') : GnAt w' v l := ⟨RowAt.below h.1 hb, fun g hg => (h.2 g hg).below hb⟩
theorem gn_one {w : World} {l : List Gn} (h : ∀ g ∈ l, GOk w g) : ∀ u ∈ gnC l, u.oneCell' = true := fun u hu => by
  obtain ⟨g, hg, hu⟩ := List.mem_flatMap.1 hu
  exact (h g hg).one u hu
theorem row3 {w : World} {a : Option Addr} {c : Nat} {l : List Gn} (h : RowAt w (.slice a l.length c) 3 l.length (gnC l)) (k : Nat) (hk : k < l.length) : ∃ b o, a = some ⟨b, o, none⟩ ∧ ∀ w', Below w.heap.size w w' → w'.cell? ⟨b, o + k * 3, none⟩ = some l[k].v ∧ w'.cell? ⟨b, o + k * 3 + 1, none⟩ = some (.int .i64 l[k].lo) ∧ w'.cell? ⟨b, o + k * 3 + 2, none⟩ = some (.int .i64 l[k].hi) := by
  obtain ⟨h0, h1, h2⟩ := gnC_at l k hk
  obtain ⟨b, o, e, g0⟩ := RowAt.one h h0
  obtain ⟨b1, o1, e1, g1⟩ := RowAt.one h h1
  obtain ⟨b2, o2, e2, g2⟩ := RowAt.one h h2
  subst e
  cases e1
  cases e2
  exact ⟨b, o, rfl, fun w' hb => ⟨g0 w' hb, g1 w' hb, g2 w' hb⟩⟩
theorem GnAt.one {w : World} {a : Option Addr} {c : Nat} {l : List Gn} (h : GnAt w (.slice a l.length c) l) (k : Nat) (hk : k < l.length) : ∃ b o, a = some ⟨b, o, none⟩ ∧ ∀ w', Below w.heap.size w w' → w'.cell? ⟨b, o + k * 3, none⟩ = some l[k].v ∧ w'.cell? ⟨b, o + k * 3 + 1, none⟩ = some (.int .i64 l[k].lo) ∧ w'.cell? ⟨b, o + k * 3 + 2, none⟩ = some (.int .i64 l[k].hi) := row3 h.1 k hk

structure Sr where
  lv : Value
  ls : List Lb
  sv : Value
  ss : List Sm
abbrev PS := List Lb × List Sm
def Sr.p (s : Sr) : PS := (s.ls, s.ss)
def srV (s : Sr) : List Value := [s.lv, s.sv]
def srC (l : List Sr) : List Value := l.flatMap srV
theorem srC_length (l : List Sr) : (srC l).length = l.length * 2 := flat_len srV 2 (fun _ => rfl) l
theorem srC_append (l m : List Sr) : srC (l ++ m) = srC l ++ srC m := by simp [srC]
theorem srC_at (l : List Sr) (k : Nat) (hk : k < l.length) : (srC l)[k * 2]? = some l[k].lv ∧ (srC l)[k * 2 + 1]? = some l[k].sv :=
  ⟨flat_at srV 2 (fun _ => rfl) l k hk 0 (by decide), flat_at srV 2 (fun _ => rfl) l k hk 1 (by decide)⟩
/-- A series that lies in memory. -/
structure SOk (w : World) (s : Sr) : Prop where
  lab : LbAt w s.lv s.ls
  few : s.ls.length ≤ 64
  smp : SmAt w s.sv s.ss
  fews : s.ss.length ≤ 40
theorem SOk.below {w w' : World} {s : Sr} (h : SOk w s) (hb : Below w.heap.size w w') : SOk w' s := ⟨h.lab.below hb, h.few, h.smp.below hb, h.fews⟩
theorem SOk.one {w : World} {s : Sr} (h : SOk w s) : ∀ u ∈ srV s, u.oneCell' = true := fun u hu => by
  obtain ⟨a, c, e, -⟩ := h.lab
  obtain ⟨a2, c2, e2, -⟩ := h.smp
  simp [srV, e, e2] at hu
  rcases hu with rfl | rfl <;> rfl
def SrAt (w : World) (v : Value) (l : List Sr) : Prop := RowAt w v 2 l.length (srC l) ∧ ∀ s ∈ l, SOk w s
theorem SrAt.below {w w' : World} {v : Value} {l : List Sr} (h : SrAt w v l) (hb : Below w.heap.size w w') : SrAt w' v l := ⟨RowAt.below h.1 hb, fun s hs => (h.2 s hs).below hb⟩
theorem sr_one {w : World} {l : List Sr} (h : ∀ s ∈ l, SOk w s) : ∀ u ∈ srC l, u.oneCell' = true := fun u hu => by
  obtain ⟨s, hs, hu⟩ := List.mem_flatMap.1 hu
  exact (h s hs).one u hu
theorem row2 {w : World} {a : Option Addr} {c : Nat} {l : List Sr} (h : RowAt w (.slice a l.length c) 2 l.length (srC l)) (k : Nat) (hk : k < l.length) : ∃ b o, a = some ⟨b, o, none⟩ ∧ ∀ w', Below w.heap.size w w' → w'.cell? ⟨b, o + k * 2, none⟩ = some l[k].lv ∧ w'.cell? ⟨b, o + k * 2 + 1, none⟩ = some l[k].sv := by
  obtain ⟨h0, h1⟩ := srC_at l k hk
  obtain ⟨b, o, e, g0⟩ := RowAt.one h h0
  obtain ⟨b1, o1, e1, g1⟩ := RowAt.one h h1
  subst e
  cases e1
  exact ⟨b, o, rfl, fun w' hb => ⟨g0 w' hb, g1 w' hb⟩⟩
theorem SrAt.one {w : World} {a : Option Addr} {c : Nat} {l : List Sr} (h : SrAt w (.slice a l.length c) l) (k : Nat) (hk : k < l.length) : ∃ b o, a = some ⟨b, o, none⟩ ∧ ∀ w', Below w.heap.size w w' → w'.cell? ⟨b, o + k * 2, none⟩ = some l[k].lv ∧ w'.cell? ⟨b, o + k * 2 + 1, none⟩ = some l[k].sv := row2 h.1 k hk

theorem appGn : App Tryz.prog 23 39 3 := App.of (z := .agg #[.slice none 0 0, .int .i64 0, .int .i64 0]) (bytes := 40) Tryz.underlying23 (by kernel_rfl) rfl (by decide) (by decide)

set_option maxRecDepth 100000 in
set_option maxHeartbeats 1000000 in
theorem cloneGn (v : Value) (n : Nat) (cs : List Value) (w : World) (h : RowAt w v 3 n cs) (h1 : ∀ u ∈ cs, u.oneCell' = true) (hl : n ≤ 900000) :
    Calls Tryz.prog 18 #[v] w fun e w' => ∃ a c, e = .returned (.slice a n c) ∧ w'.ownsRow w.heap.size 39 3 (.slice a n c) n cs ∧ Below w.heap.size w w' := by
  obtain ⟨a, c, rfl, hlc, hcl, hcc⟩ := id h
  have HL : Hid (∀ W, Below w.heap.size w W → RowAt W (.slice a n c) 3 n cs) := fun W hb => h.below hb
  have HA : Hid (Below w.heap.size w (w.alloc (.cells #[] 39))) := (Below.refl _ w).alloc (Nat.le_refl _) _
  have HE : Hid ((w.alloc (.cells #[] 39)).ownsRow w.heap.size 39 3 (.slice (some ⟨w.heap.size, 0, none⟩) 0 0) 0 []) := row_empty w _ _ (Nat.le_refl _)
  have HX : Hid (∀ w1, (w.alloc (.cells #[] 39)).grownBy w1 (Value.slice (some ⟨w.heap.size, 0, none⟩) 0 0).ownBlock → Below w.heap.size w w1) := fun w1 hg1 => HA.out.grown hg1 (by simp) (fun k hk => by simp [Value.ownBlock] at hk; omega)
  have H1 : Hid (∀ u ∈ cs, u.oneCell' = true) := h1
  have qe : ∀ (w : World) (a : Option Addr) (n c n' c' : Nat), (binOp .eql 23 (.slice a n c) (.slice none n' c')).run Tryz.prog w = .ok (.bool a.isNone) w := fun w a n c n' c' => Lib.run_eql_slice_nil w _ _ a n c n' c' Tryz.underlying23
  cases a with
  | none =>
    have hn0 : cs = [] := by
      cases cs with
      | nil => rfl
      | cons x t =>
        obtain ⟨b, o, e, -⟩ := hcc 0 x rfl
        cases e
    subst hn0
    have hn1 : n = 0 := by simp at hcl; omega
    subst hn1
    clear h h1 hcc hcl
    go_enter Tryz.func18, Tryz.ntmps18
    go_wp2
    go_ret
    exact ⟨none, 0, rfl, ⟨rfl, Or.inl ⟨rfl, rfl⟩⟩, Below.refl _ _⟩
  | some ad =>
    clear h h1 hcc
    go_enter Tryz.func18, Tryz.ntmps18
    go_wp2_with (at_builtin; refine wpList_append_row appGn _ rfl _ _ rfl w.heap.size (.slice (some ⟨w.heap.size, 0, none⟩) 0 0) 0 [] rfl HE.out _ n cs rfl (HL.out _ HA.out) H1.out (by omega) (by simp) ?_; intro a1 c1 w1 hr1 hg1 _; have hb1 := HX.out _ hg1; rw [Nat.zero_add, List.nil_append] at hr1; rw [Nat.zero_add])
    go_ret
    exact ⟨a1, c1, rfl, hr1, hb1⟩

end Go.Proofs.YtjnjmpfldbkciaaGreat
