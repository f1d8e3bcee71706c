/- The reader of an expression: contracts of its parts; a part. -/
import Derived.Test.YtmbkcmfcdjccoaaDoorMP19
namespace Go.Proofs.YtmbkcmfcdjccoaaDoor
open Go.RowKit Go.Maps

def okT : Pt Nd → Bool
  | .no _ => false
  | .yes _ _ _ => true
/-- What lies in memory behind the reading of parts. -/
def PtQ (w : World) (U : Nat) (s : ByteArray) (R : Pt Nd) (x : Option Addr) (w' : World) : Prop := match R with
  | .no q => ∃ g, RdS w U s g w' q
  | .yes y q g => ∃ b, x = some ⟨b, 0, none⟩ ∧ RdS w U s g w' q ∧ NdAt w' (Fresh w.heap.size w'.heap.size) y b
/-- What reading parts comes to. -/
def PtP (w : World) (U : Nat) (s : ByteArray) (R : Pt Nd) (e : Ending) (w' : World) : Prop := ∃ x, e = .returned (.tuple #[.pointer x, .bool (okT R)]) ∧ PtQ w U s R x w'
section
variable {w W W' : World} {U : Nat} {s : ByteArray} {i j g g' : Nat}
theorem RdS.onto (H : RdS w U s g W i) (h : RdS W U s g' W' j) : RdS w U s g' W' j := ⟨h.rd, H.kept.two h.kept⟩
theorem RdS.up (H : RdS w U s g W i) {n : Nat} (hn : n ≤ w.heap.size) : n ≤ W.heap.size := Nat.le_trans hn H.size
/-- What lies in a footprint of one's own is kept. -/
theorem NdAt.kept {S0 : Nat} {y : Nd} {b : Nat} (h : NdAt W (Fresh S0 W.heap.size) y b) (hk : Kept (fun k => k = U) W W') (hU : U < S0) : NdAt W' (Fresh S0 W'.heap.size) y b :=
  NdAt.to (fun j hj => ⟨hj.1, Nat.lt_of_lt_of_le hj.2 hk.size⟩) (fun j hj => hk.block j hj.2 (fun (e : j = U) => by have := hj.1; omega)) y b h
theorem NdAt.wide {S0 S1 : Nat} {y : Nd} {b : Nat} (h : NdAt W (Fresh S1 W.heap.size) y b) (hS : S0 ≤ S1) : NdAt W (Fresh S0 W.heap.size) y b :=
  NdAt.to (fun _j hj => ⟨Nat.le_trans hS hj.1, hj.2⟩) (fun _j _hj => rfl) y b h
theorem PtQ.on {R : Pt Nd} {x : Option Addr} (H : RdS w U s g W i) (h : PtQ W U s R x W') : PtQ w U s R x W' := by
  cases R with
  | no q =>
    obtain ⟨g', h2⟩ := h
    exact ⟨g', H.onto h2⟩
  | yes y q g' =>
    obtain ⟨b, hx, h2, h3⟩ := h
    exact ⟨b, hx, H.onto h2, h3.wide H.size⟩
theorem PtP.on {R : Pt Nd} {e : Ending} (H : RdS w U s g W i) (h : PtP W U s R e W') : PtP w U s R e W' := by
  obtain ⟨x, he, hq⟩ := h
  exact ⟨x, he, hq.on H⟩
end
/-- A function that reads parts, from any place on. -/
def PtC (f : FuncId) (s : ByteArray) (i g : Nat) (R : Pt Nd) : Prop := ∀ U B w, RdAt w U s i g → Env8 w B → B ≤ U → Calls Tryd.prog f #[.pointer (some ⟨U, 0, none⟩)] w fun e w' => PtP w U s R e w'
theorem PtC.is {f : FuncId} {s : ByteArray} {i g : Nat} {R : Pt Nd} (hC : PtC f s i g R) {w : World} {U B : Nat} (hE : Env8 w B) (hB : B ≤ U) (hBw : B ≤ w.heap.size) : Hid (∀ W, RdS w U s g W i → Calls Tryd.prog f #[.pointer (some ⟨U, 0, none⟩)] W fun e w' => ∃ x, e = .returned (.tuple #[.pointer x, .bool (okT R)]) ∧ PtQ w U s R x w') := fun W hW =>
  (hC U B W hW.rd (hE.kept hW.kept hB hBw) hB).mono (fun _e _w' h => PtP.on hW h)
/-- All five, at once. -/
structure AllC (s : ByteArray) (n : Nat) : Prop where
  either : ∀ i g, i ≤ s.size → g ≤ i → 5 * (s.size - i) + 2 ≤ n → PtC 25 s i g (eitherR s n i g)
  row : ∀ i g, i ≤ s.size → g ≤ i → 5 * (s.size - i) + 1 ≤ n → PtC 32 s i g (rowR s n i g [])
  part : ∀ i g, i < s.size → g ≤ i → 5 * (s.size - i) ≤ n → PtC 45 s i g (partR s n i g)
  thing : ∀ i g, i < s.size → g ≤ i → 5 * (s.size - i) ≤ n + 1 → PtC 51 s i g (thingR s n i g)
  bracket : ∀ i g, i ≤ s.size → g + 1 ≤ i → 5 * (s.size - i) + 3 ≤ n → PtC 53 s i g (bracketR s n i g)

def withG (g : Nat) : Rd Nd → Pt Nd
  | .no q => .no q
  | .yes y q => .yes y q g
theorem repeated_is {w : World} {U : Nat} {s : ByteArray} {i g : Nat} {x : Nd} (hU : U < w.heap.size) (h0 : 0 ≤ sizeN x) (hs : s.size ≤ 1000000) : Hid (∀ W a b, a = some ⟨b, 0, none⟩ → RdS w U s g W i → NdAt W (Fresh w.heap.size W.heap.size) x b → Calls Tryd.prog 52 #[.pointer (some ⟨U, 0, none⟩), .pointer a] W fun e w' => ∃ x', e = .returned (.tuple #[.pointer x', .bool (okT (withG g (repR s x i)))]) ∧ PtQ w U s (withG g (repR s x i)) x' w') := fun W a b ha hW hx => by
  subst ha
  refine (repeated_any U b w.heap.size s i g x W hW.rd hx hU hW.size h0 hs).mono ?_
  intro e w' h
  cases hr : repR s x i with
  | no q =>
    rw [hr] at h
    obtain ⟨⟨x', he⟩, h2⟩ := h
    exact ⟨x', he, g, hW.onto h2⟩
  | yes y q =>
    rw [hr] at h
    obtain ⟨b', he, h2, h3, h4⟩ := h
    exact ⟨_, he, b', rfl, hW.onto h2, h3⟩
section
variable {w W : World} {U : Nat} {s : ByteArray} {i g : Nat}
theorem RdS.made (H : RdS w U s g W i) (o : Obj) : RdS w U s g (W.alloc o) i := H.below ((Below.refl _ _).alloc (Nat.le_refl _) _)
theorem fresh_new (H : RdS w U s g W i) (o : Obj) : Fresh w.heap.size (W.alloc o).heap.size W.heap.size := ⟨H.size, by simp⟩
end

set_option maxRecDepth 100000 in
set_option maxHeartbeats 4000000 in
theorem part_next {s : ByteArray} {n : Nat} (hT : ∀ i g, i < s.size → g ≤ i → 5 * (s.size - i) ≤ n + 1 → PtC 51 s i g (thingR s n i g)) (hs : s.size ≤ 10000) :
    ∀ i g, i < s.size → g ≤ i → 5 * (s.size - i) ≤ n + 1 → PtC 45 s i g (partR s (n + 1) i g) := by
  intro i g hi hg hn U B w h hE hB
  have hU := h.lt
  have hsm : s.size ≤ 1000000 := by omega
  have HS : Hid (RdS w U s g w i) := RdS.start h
  have HT := (hT i g hi hg hn).is hE hB (by omega)
  have hok := (allOk s n).thing i g hi hg
  rw [part_one]
  clear h hE hT
  cases h94 : seesB s i 94 with
  | true =>
    rw [if_pos rfl]
    have HK := skip_yes (w := w) (U := U) (g := g) 94 h94 hsm
    clear HT hok
    go_enter Tryd.func45, Tryd.ntmps45
    go_wp2_with (go_at_call 33; refine (HK.out _ HS.out).mono ?_; clear HK HS; rintro e w1 ⟨rfl, hl⟩; have HS : Hid (RdS w U s g w1 (i + 1)) := hl; clear hl)
    go_ret2
    exact ⟨_, rfl, _, rfl, HS.out.made _, by unfold NdAt; exact ⟨fresh_new HS.out _, heap_alloc_new _ _⟩⟩
  | false =>
    rw [if_neg (by simp)]
    have HK := skip_no (w := w) (U := U) (g := g) 94 h94 hsm
    cases h36 : seesB s i 36 with
    | true =>
      rw [if_pos rfl]
      have HK2 := skip_yes (w := w) (U := U) (g := g) 36 h36 hsm
      clear HT hok
      go_enter Tryd.func45, Tryd.ntmps45
      go_wp2_with (first
        | (go_at_call 33; refine (HK.out _ HS.out).mono ?_; clear HK HS; rintro e w1 ⟨rfl, hl⟩; have HS : Hid (RdS w U s g w1 i) := hl; clear hl)
        | (go_at_call 33; refine (HK2.out _ HS.out).mono ?_; clear HK2 HS; rintro e w2 ⟨rfl, hl⟩; have HS : Hid (RdS w U s g w2 (i + 1)) := hl; clear hl))
      go_ret2
      exact ⟨_, rfl, _, rfl, HS.out.made _, by unfold NdAt; exact ⟨fresh_new HS.out _, heap_alloc_new _ _⟩⟩
    | false =>
      rw [if_neg (by simp)]
      have HK2 := skip_no (w := w) (U := U) (g := g) 36 h36 hsm
      cases hr : thingR s n i g with
      | no q =>
        rw [hr] at HT
        have HT2 : Hid (∀ W, RdS w U s g W i → Calls Tryd.prog 51 #[.pointer (some ⟨U, 0, none⟩)] W fun e w' => ∃ x, e = .returned (.tuple #[.pointer x, .bool false]) ∧ PtQ w U s (.no q) x w') := HT.out
        clear HT hok hr
        dsimp only
        go_enter Tryd.func45, Tryd.ntmps45
        go_wp2_with (first
          | (go_at_call 33; refine (HK.out _ HS.out).mono ?_; clear HK HS; rintro e w1 ⟨rfl, hl⟩; have HS : Hid (RdS w U s g w1 i) := hl; clear hl)
          | (go_at_call 33; refine (HK2.out _ HS.out).mono ?_; clear HK2 HS; rintro e w2 ⟨rfl, hl⟩; have HS : Hid (RdS w U s g w2 i) := hl; clear hl)
          | (go_at_call 51; refine (HT2.out _ HS.out).mono ?_; clear HT2 HS; rintro e w3 ⟨x, rfl, hl⟩; have HQ : Hid (PtQ w U s (.no q) x w3) := hl; clear hl))
        go_ret2
        exact ⟨_, rfl, HQ.out⟩
      | yes x p g2 =>
        rw [hr] at HT hok
        obtain ⟨o1, o2, o3, o4⟩ := hok
        have HT2 : Hid (∀ W, RdS w U s g W i → Calls Tryd.prog 51 #[.pointer (some ⟨U, 0, none⟩)] W fun e w' => ∃ a, e = .returned (.tuple #[.pointer a, .bool true]) ∧ ∃ b, a = some ⟨b, 0, none⟩ ∧ RdS w U s g2 w' p ∧ NdAt w' (Fresh w.heap.size w'.heap.size) x b) := HT.out
        have HR := repeated_is (w := w) (U := U) (s := s) (i := p) (g := g2) (x := x) hU (wf_size x o4) hsm
        clear HT hr
        have hR : (match repR s x p with | .no q => Pt.no q | .yes y q => Pt.yes y q g2) = withG g2 (repR s x p) := by cases repR s x p <;> rfl
        show Calls _ _ _ _ fun e w' => PtP w U s (match repR s x p with | .no q => Pt.no q | .yes y q => Pt.yes y q g2) e w'
        rw [hR]
        clear hR
        generalize withG g2 (repR s x p) = R at *
        go_enter Tryd.func45, Tryd.ntmps45
        go_wp2_with (first
          | (go_at_call 33; refine (HK.out _ HS.out).mono ?_; clear HK HS; rintro e w1 ⟨rfl, hl⟩; have HS : Hid (RdS w U s g w1 i) := hl; clear hl)
          | (go_at_call 33; refine (HK2.out _ HS.out).mono ?_; clear HK2 HS; rintro e w2 ⟨rfl, hl⟩; have HS : Hid (RdS w U s g w2 i) := hl; clear hl)
          | (go_at_call 51; refine (HT2.out _ HS.out).mono ?_; clear HT2 HS; rintro e w3 ⟨a, rfl, b, hab, hl, hnd⟩; have HX : Hid (a = some ⟨b, 0, none⟩ ∧ RdS w U s g2 w3 p ∧ NdAt w3 (Fresh w.heap.size w3.heap.size) x b) := ⟨hab, hl, hnd⟩; clear hab hl hnd)
          | (go_at_call 52; refine (HR.out _ _ _ HX.out.1 HX.out.2.1 HX.out.2.2).mono ?_; clear HR HX; rintro e w4 ⟨x', rfl, hl⟩; have HQ : Hid (PtQ w U s R x' w4) := hl; clear hl))
        go_ret2
        exact ⟨_, rfl, HQ.out⟩
end Go.Proofs.YtmbkcmfcdjccoaaDoor
