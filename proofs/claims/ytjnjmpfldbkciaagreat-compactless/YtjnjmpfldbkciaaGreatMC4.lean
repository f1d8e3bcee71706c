/- Lists of pieces and series that a function makes; pieces and cut of the statement. -/
import Derived.Test.YtjnjmpfldbkciaaGreatC3
import Derived.Test.YtjnjmpfldbkciaaGreatMB7
namespace Go.Proofs.YtjnjmpfldbkciaaGreat
open Go.RowKit Go.Maps

theorem row_block {w : World} {base n size : Nat} {e : TypeId} {v : Value} {xs : List Value} (h : w.ownsRow base e size v n xs) {b : Nat} (hb : v.ownBlock = some b) : ∃ cs fr, w.heap[b]? = some (.cells cs e fr) := by
  rcases h.2 with ⟨rfl, _⟩ | ⟨g, cap, cur, rfl, _, hh, _⟩
  · cases hb
  · simp [Value.ownBlock] at hb
    subst hb
    exact ⟨_, _, hh⟩
theorem Below.kept {w W : World} (h : Below w.heap.size w W) : Kept (fun i => w.heap.size ≤ i) w W := ⟨h.os, h.tape, h.output, h.size, fun i hi _ => h.block i hi⟩
theorem Kept.ofBelow {w W : World} (h : Below w.heap.size w W) : Kept (fun _ => False) w W := ⟨h.os, h.tape, h.output, h.size, fun i hi _ => h.block i hi⟩
/-- Only blocks of such a type have turned. -/
def TurnT (t : TypeId) (w W W' : World) : Prop := ∃ O, Kept O W W' ∧ (∀ k, O k → w.heap.size ≤ k) ∧ ∀ k, O k → ∃ cs fr, W.heap[k]? = some (.cells cs t fr)
theorem TurnT.below {t : TypeId} {w W W' : World} (h : Below W.heap.size W W') : TurnT t w W W' := ⟨_, Kept.ofBelow h, fun _ h => h.elim, fun _ h => h.elim⟩
theorem TurnT.row {t u : TypeId} {w W W' : World} (h : TurnT t w W W') (hne : u ≠ t) {base size n : Nat} {v : Value} {xs : List Value} (ho : W.ownsRow base u size v n xs) : W'.ownsRow base u size v n xs := by
  obtain ⟨O, hk, -, ht⟩ := h
  refine hk.ownsRow ho (fun k hv hO => ?_)
  obtain ⟨cs, fr, e⟩ := ht k hO
  obtain ⟨cs', fr', e'⟩ := row_block ho hv
  rw [e] at e'
  simp at e'
  exact hne e'.2.1.symm
theorem TurnT.to {t : TypeId} {w W W' : World} (h : TurnT t w W W') (hb : Below w.heap.size w W) : Below w.heap.size w W' := by
  obtain ⟨O, hk, h1, -⟩ := h
  exact hb.trans (hk.toBelow hb.size h1)
theorem TurnT.grown {t : TypeId} {w W W' : World} {o : Obj} {v : Value} {n size : Nat} {xs : List Value} (hr : W.ownsRow w.heap.size t size v n xs) (hg : (W.alloc o).grownBy W' v.ownBlock) : TurnT t w W W' :=
  ⟨fun k => v.ownBlock = some k, ((Kept.refl _ W).alloc o).grown hg (fun _ _ e => e), fun k e => (hr.lt k e).1, fun _ e => row_block hr e⟩
theorem TurnT.grown0 {t : TypeId} {w W W' : World} {v : Value} {n size : Nat} {xs : List Value} (hr : W.ownsRow w.heap.size t size v n xs) (hg : W.grownBy W' v.ownBlock) : TurnT t w W W' :=
  ⟨fun k => v.ownBlock = some k, (Kept.refl _ W).grown hg (fun _ _ e => e), fun k e => (hr.lt k e).1, fun _ e => row_block hr e⟩

/-- Labels of what came in, or of one's own. -/
def LbIn (w W : World) (v : Value) (ls : List Lb) : Prop := LbAt w v ls ∨ W.ownsRow w.heap.size 53 2 v ls.length (lbC ls)
theorem LbIn.at {w W : World} {v : Value} {ls : List Lb} (h : LbIn w W v ls) (hb : Below w.heap.size w W) : LbAt W v ls := by
  rcases h with h | h
  · exact h.below hb
  · exact RowAt.of_row h
theorem LbIn.turn {t : TypeId} {w W W' : World} {v : Value} {ls : List Lb} (h : LbIn w W v ls) (ht : TurnT t w W W') (hne : 53 ≠ t) : LbIn w W' v ls := by
  rcases h with h | h
  · exact Or.inl h
  · exact Or.inr (ht.row hne h)
structure GIn (w W : World) (g : Gn) : Prop where
  lab : LbIn w W g.v g.ls
  few : g.ls.length ≤ 64
  lo1 : -9223372036854775808 ≤ g.lo
  lo2 : g.lo ≤ 9223372036854775807
  hi1 : -9223372036854775808 ≤ g.hi
  hi2 : g.hi ≤ 9223372036854775807
theorem GIn.at {w W : World} {g : Gn} (h : GIn w W g) (hb : Below w.heap.size w W) : GOk W g := ⟨h.lab.at hb, h.few, h.lo1, h.lo2, h.hi1, h.hi2⟩
theorem GIn.turn {t : TypeId} {w W W' : World} {g : Gn} (h : GIn w W g) (ht : TurnT t w W W') (hne : 53 ≠ t) : GIn w W' g := ⟨h.lab.turn ht hne, h.few, h.lo1, h.lo2, h.hi1, h.hi2⟩
theorem GOk.inn {w W : World} {g : Gn} (h : GOk w g) : GIn w W g := ⟨Or.inl h.lab, h.few, h.lo1, h.lo2, h.hi1, h.hi2⟩
/-- A list of pieces of one's own. -/
structure GRow (w W : World) (v : Value) (out : List Gn) : Prop where
  row : W.ownsRow w.heap.size 39 3 v out.length (gnC out)
  ok : ∀ g ∈ out, GIn w W g
  bel : Below w.heap.size w W
theorem GRow.below {w W W' : World} {v : Value} {out : List Gn} (h : GRow w W v out) (hb : Below W.heap.size W W') : GRow w W' v out :=
  ⟨row_below h.row hb, fun g hg => (h.ok g hg).turn (t := 0) (TurnT.below hb) (by decide), (TurnT.below (t := 0) hb).to h.bel⟩
theorem GRow.nil {w W : World} (hb : Below w.heap.size w W) : GRow w W (.slice none 0 0) [] := ⟨⟨rfl, Or.inl ⟨rfl, rfl⟩⟩, fun g hg => by simp at hg, hb⟩
theorem GRow.at {w W : World} {v : Value} {out : List Gn} (h : GRow w W v out) : GnAt W v out := ⟨RowAt.of_row h.row, fun g hg => (h.ok g hg).at h.bel⟩
theorem GRow.more {w W W' : World} {v v' : Value} {out : List Gn} {o : Obj} (h : GRow w W v out) (g : Gn) (hg : GIn w W g) (hr : W'.ownsRow w.heap.size 39 3 v' (out.length + 1) (gnC out ++ gnV g)) (hgr : (W.alloc o).grownBy W' v.ownBlock) : GRow w W' v' (out ++ [g]) := by
  have ht : TurnT 39 w W W' := TurnT.grown h.row hgr
  refine ⟨?_, fun x hx => ?_, ht.to h.bel⟩
  · rw [List.length_append, gnC_append]
    exact hr
  · rcases List.mem_append.1 hx with hx | hx
    · exact (h.ok x hx).turn ht (by decide)
    · simp at hx
      subst hx
      exact hg.turn ht (by decide)

structure SIn (w W : World) (s : Sr) : Prop where
  lab : LbIn w W s.lv s.ls
  few : s.ls.length ≤ 64
  smp : SmAt w s.sv s.ss ∨ W.ownsRow w.heap.size 42 2 s.sv s.ss.length (smC s.ss)
  fews : s.ss.length ≤ 40
theorem SIn.at {w W : World} {s : Sr} (h : SIn w W s) (hb : Below w.heap.size w W) : SOk W s := ⟨h.lab.at hb, h.few, by
  rcases h.smp with h | h
  · exact h.below hb
  · exact RowAt.of_row h, h.fews⟩
theorem SIn.turn {t : TypeId} {w W W' : World} {s : Sr} (h : SIn w W s) (ht : TurnT t w W W') (hne : 53 ≠ t) (hns : 42 ≠ t) : SIn w W' s := ⟨h.lab.turn ht hne, h.few, by
  rcases h.smp with h | h
  · exact Or.inl h
  · exact Or.inr (ht.row hns h), h.fews⟩
structure SRow (w W : World) (v : Value) (out : List Sr) : Prop where
  row : W.ownsRow w.heap.size 36 2 v out.length (srC out)
  ok : ∀ s ∈ out, SIn w W s
  bel : Below w.heap.size w W
theorem SRow.below {w W W' : World} {v : Value} {out : List Sr} (h : SRow w W v out) (hb : Below W.heap.size W W') : SRow w W' v out :=
  ⟨row_below h.row hb, fun g hg => (h.ok g hg).turn (t := 0) (TurnT.below hb) (by decide) (by decide), (TurnT.below (t := 0) hb).to h.bel⟩
theorem SRow.nil {w W : World} (hb : Below w.heap.size w W) : SRow w W (.slice none 0 0) [] := ⟨⟨rfl, Or.inl ⟨rfl, rfl⟩⟩, fun g hg => by simp at hg, hb⟩
theorem SRow.at {w W : World} {v : Value} {out : List Sr} (h : SRow w W v out) : SrAt W v out := ⟨RowAt.of_row h.row, fun g hg => (h.ok g hg).at h.bel⟩
theorem SRow.more {w W W' : World} {v v' : Value} {out : List Sr} {o : Obj} (h : SRow w W v out) (s : Sr) (hs : SIn w W s) (hr : W'.ownsRow w.heap.size 36 2 v' (out.length + 1) (srC out ++ srV s)) (hgr : (W.alloc o).grownBy W' v.ownBlock) : SRow w W' v' (out ++ [s]) := by
  have ht : TurnT 36 w W W' := TurnT.grown h.row hgr
  refine ⟨?_, fun x hx => ?_, ht.to h.bel⟩
  · rw [List.length_append, srC_append]
    exact hr
  · rcases List.mem_append.1 hx with hx | hx
    · exact (h.ok x hx).turn ht (by decide) (by decide)
    · simp at hx
      subst hx
      exact hs.turn ht (by decide) (by decide)

/-- What comes in. -/
structure GCame (w : World) (g : Gn) : Prop where
  lab : LbAt w g.v g.ls
  sz : SizedL g.ls
  lo1 : -9223372036854775808 ≤ g.lo
  lo2 : g.lo ≤ 9223372036854775807
  hi1 : -9223372036854775808 ≤ g.hi
  hi2 : g.hi ≤ 9223372036854775807
structure SCame (w : World) (s : Sr) : Prop where
  lab : LbAt w s.lv s.ls
  sz : SizedL s.ls
  smp : SmAt w s.sv s.ss

set_option maxRecDepth 100000 in
set_option maxHeartbeats 2000000 in
theorem pieces_any (v : Value) (l : List Gn) (w : World) (h : RowAt w v 3 l.length (gnC l)) (hg : ∀ g ∈ l, GCame w g) :
    Calls Tryz.prog 5 #[v] w fun e w' => ∃ u, e = .returned u ∧ ∃ out, GRow w w' u out ∧ out.length ≤ 12 := by
  obtain ⟨a, c, rfl, hlc, -⟩ := id h
  have hl : l.length ≤ 9223372036854775807 := Nat.le_trans hlc.1 hlc.2
  have HC : Hid (RowAt w (.slice a l.length c) 3 l.length (gnC l)) := h
  have HG : Hid (∀ g ∈ l, GCame w g) := hg
  clear h hg hlc
  go_enter Tryz.func5, Tryz.ntmps5
  go_wp2
  go_loopw [3, 4] (fun s i wr => ∃ (k n : Nat) (out : List Gn) (sa : Option Addr) (sc : Nat), k ≤ l.length ∧ n ≤ 12 ∧ Hid (out.length = n) ∧ i = .int .i64 k ∧ s = .slice sa n sc ∧ Hid (GRow w wr (.slice sa n sc) out)) (fun _ i _ => l.length - (intOf i).toNat)
  case atStart => exact ⟨0, 0, [], none, 0, Nat.zero_le _, Nat.zero_le _, rfl, rfl, rfl, GRow.nil (Below.refl _ _)⟩
  case round =>
    obtain ⟨k, n, out, sa, sc, hk, hn, HON, rfl, rfl, hG⟩ := hrel
    by_cases hc : k < l.length ∧ n < 12
    · obtain ⟨hlt, h12⟩ := hc
      obtain ⟨b, o, rfl, hone⟩ := row3 HC.out k hlt
      have hcm := HG.out l[k] (List.getElem_mem hlt)
      obtain ⟨g, hge⟩ : ∃ g, g = l[k] := ⟨_, rfl⟩
      rw [← hge] at hone hcm
      obtain ⟨g0, g1, g2⟩ := hone wr hG.out.bel
      obtain ⟨la, lc, hlv, -⟩ := id hcm.lab
      obtain ⟨gv, gls, glo, ghi⟩ := g
      dsimp only at hlv g0 g1 g2 hone
      subst hlv
      have HR : Hid (Calls Tryz.prog 15 #[.slice la gls.length lc] wr fun e w' => e = .returned (.bool (rightS gls)) ∧ Below wr.heap.size wr w') := refRight_any _ gls wr (hcm.lab.below hG.out.bel) hcm.sz
      have HB2 : Hid (∀ w2, Below wr.heap.size wr w2 → GRow w w2 (.slice sa n sc) out ∧ w2.cell? ⟨b, o + k * 3, none⟩ = some (.slice la gls.length lc) ∧ w2.cell? ⟨b, o + k * 3 + 1, none⟩ = some (.int .i64 glo) ∧ w2.cell? ⟨b, o + k * 3 + 2, none⟩ = some (.int .i64 ghi)) := fun w2 hb => by
        have h1 := hG.out.below hb
        exact ⟨h1, hone w2 h1.bel⟩
      have HI : Hid (∀ W, rightS gls = true → GIn w W ⟨.slice la gls.length lc, gls, glo, ghi⟩) := fun W hr => ⟨Or.inl hcm.lab, right_few hr, hcm.lo1, hcm.lo2, hcm.hi1, hcm.hi2⟩
      clear hone hcm hge HC HG
      generalize hrs : rightS gls = rs at *
      cases rs
      · clear HI
        go_wp2_with (go_at_call 15; refine HR.out.mono ?_; rintro e w2 ⟨rfl, hb2⟩)
        go_roundw
        case rel => exact ⟨k + 1, n, out, sa, sc, by omega, by omega, HON, by go_num, rfl, (HB2.out w2 hb2).1⟩
        case measure => simp [intOf]; omega
      · have HI' : Hid (∀ W, GIn w W ⟨.slice la gls.length lc, gls, glo, ghi⟩) := fun W => HI.out W rfl
        have HA : Hid (∀ w2, Below wr.heap.size wr w2 → ∀ o, (w2.alloc o).ownsRow w.heap.size 39 3 (.slice sa n sc) n (gnC out) ∧ w.heap.size ≤ (w2.alloc o).heap.size) := fun w2 hb o => by
          have h1 := (HB2.out w2 hb).1
          have h2 := h1.row
          rw [HON.out] at h2
          refine ⟨h2.alloc o, ?_⟩
          have := h1.bel.size
          simp
          omega
        clear HI hrs
        go_wp2_with (first
          | (go_at_call 15; refine HR.out.mono ?_; rintro e w2 ⟨rfl, hb2⟩; obtain ⟨hG2, g0', g1', g2'⟩ := HB2.out w2 hb2)
          | (at_builtin; refine wpList_append_row appGn _ rfl _ _ rfl w.heap.size _ n (gnC out) rfl (HA.out w2 hb2 _).1 _ 1 [.slice la gls.length lc, .int .i64 glo, .int .i64 ghi] rfl (RowAt.of_block (cs := #[.slice la gls.length lc, .int .i64 glo, .int .i64 ghi]) (heap_alloc_new w2 _) rfl (by decide)) (by simp [Value.oneCell']) (by omega) (HA.out w2 hb2 _).2 ?_; intro a5 c5 w5 hr5 hg5 hw5))
        go_roundw
        case rel =>
          refine ⟨k + 1, n + 1, out ++ [⟨.slice la gls.length lc, gls, glo, ghi⟩], a5, c5, by omega, by omega, by show _ = _; rw [List.length_append, HON.out]; rfl, by go_num, rfl, ?_⟩
          exact hG2.more _ (HI'.out w2) (by rw [HON.out]; exact hr5) hg5
        case measure => simp [intOf]; omega
    · have h12 : k < l.length → ¬ ((n : Int) < 12) := fun h1 h2 => hc ⟨h1, by omega⟩
      have HF : Hid (∃ out : List Gn, GRow w wr (.slice sa n sc) out ∧ out.length ≤ 12) := ⟨out, hG.out, by rw [HON.out]; exact hn⟩
      clear hc HC HG hG
      by_cases hlt : k < l.length
      · have h12' := h12 hlt
        clear h12
        go_wp2
        go_ret
        obtain ⟨out', h1, h2⟩ := HF.out
        exact ⟨_, rfl, out', h1, h2⟩
      · clear h12
        go_wp2
        go_ret
        obtain ⟨out', h1, h2⟩ := HF.out
        exact ⟨_, rfl, out', h1, h2⟩

end Go.Proofs.YtjnjmpfldbkciaaGreat
