/- A stopped pair: Append. -/
import Derived.Test.YtihoccaaecmcfaaRc
namespace Go.Proofs.Ytihoccaaecmcfaa
open Go.RowKit Go.Maps Go.Sort

/-- The blocks that the pair lies in. -/
def DeadBlk (d f r p : Nat) (s : St) (v dv : Value) (b : Nat) : Prop := s.own d b ∨ b = f ∨ v.ownBlock = some b ∨ b = r ∨ dv.ownBlock = some b ∨ b = p

section
variable {w : World} {d f r p : Nat} {s : St} {v : Value} {cap : Int} {fv dv kv pv : Value} {dir : List (ByteArray × Int)} {cnt : Int} (h : Dead w d f r p s v cap fv dv kv pv dir cnt)
include h

theorem Dead.lt {b : Nat} (hb : DeadBlk d f r p s v dv b) : b < w.heap.size := by
  rcases hb with hb | rfl | hb | rfl | hb | rfl
  · exact h.disk.lt b hb
  · exact (Array.getElem?_eq_some_iff.1 h.file.at_).1
  · exact (h.file.row.lt b hb).2
  · exact h.ref.lt
  · exact (h.rD.lt b hb).2
  · exact (Array.getElem?_eq_some_iff.1 h.pair).1

theorem Dead.kept {w' : World} {O : Nat → Prop} (k : Kept O w w') (hO : ∀ b, DeadBlk d f r p s v dv b → ¬ O b) : Dead w' d f r p s v cap fv dv kv pv dir cnt :=
  ⟨h.disk.kept k (fun b hb => hO b (Or.inl hb)), h.stop, h.file.kept k (hO f (Or.inr (Or.inl rfl))) (fun b hb => hO b (Or.inr (Or.inr (Or.inl hb)))), h.ref.kept k (hO r (Or.inr (Or.inr (Or.inr (Or.inl rfl))))), k.ownsRow h.rD (fun b hb => hO b (Or.inr (Or.inr (Or.inr (Or.inr (Or.inl hb)))))), k.heap h.pair (hO p (Or.inr (Or.inr (Or.inr (Or.inr (Or.inr rfl)))))), h.c0⟩

theorem Dead.nf : ∀ k, (k = d ∨ k = s.fb ∨ k = r) → k < w.heap.size := by
  rintro k (rfl | rfl | rfl)
  · exact h.disk.at_.lt
  · exact h.disk.mF.lt
  · exact h.ref.lt

variable (x : OpV) (ho : s.ops < 1000000000) (hc : cnt < 1000000000)
include ho hc

set_option maxRecDepth 100000 in
set_option maxHeartbeats 2000000 in
theorem op_append_short (ba : Option Addr) (bc : Nat) (bs : List UInt8) (hx : x.bv = .slice ba bs.length bc) (hb : BytesAt w (.slice ba bs.length bc) bs) (hbl : bs.length ≤ 200) (hlow : ∀ k, (Value.slice ba bs.length bc).ownBlock = some k → bs ≠ [] → ¬ (k = d ∨ k = s.fb ∨ k = r)) :
    Calls Try.prog 26 #[.pointer (some ⟨p, 0, none⟩), .agg #[.int .i64 1, .int .i64 x.n, .int .i64 x.k, .string x.name, .string x.dest, x.bv, x.cv]] w fun e w' => e = .returned (.bool true) ∧ Dead w' d f r p s.begun v cap fv dv kv pv dir (cnt + 1) ∧ Kept (fun k => k = d ∨ k = s.fb ∨ k = r) w w' := by
  have hop : opCells x 1 = #[.int .i64 1, .int .i64 x.n, .int .i64 x.k, .string x.name, .string x.dest, .slice ba bs.length bc, x.cv] := by unfold opCells; rw [hx]
  have HS : Hid (∀ w1, w1 = w.alloc (.cells #[.int .i64 1, .int .i64 x.n, .int .i64 x.k, .string x.name, .string x.dest, .slice ba bs.length bc, x.cv] 34) → Both p d r w.heap.size x 1 w1 ∧ Dead w1 d f r p s v cap fv dv kv pv dir cnt ∧ Kept (fun _ => False) w w1) := fun w1 hw => dead_start h x 1 w1 (by rw [hop]; exact hw)
  have HP : Hid (∀ w1 w2, Both p d r w.heap.size x 1 w1 → Dead w1 d f r p s v cap fv dv kv pv dir cnt → IsDisk w2 d s.begun → Kept (fun k => k = d ∨ k = s.fb) w1 w2 → Both p d r w.heap.size x 1 w2 ∧ Dead w2 d f r p s.begun v cap fv dv kv pv dir cnt) := fun w1 w2 => dead_prog h x
  have HD : Hid (∀ w1 w2, Both p d r w.heap.size x 1 w1 → Dead w1 d f r p s.begun v cap fv dv kv pv dir cnt → RefAt w2 r cap fv dv kv pv (.slice none 0 0) 0 (cnt + 1) → Kept (fun k => k = r) w1 w2 → Both p d r w.heap.size x 1 w2 ∧ Dead w2 d f r p s.begun v cap fv dv kv pv dir (cnt + 1)) := fun w1 w2 => dead_doc h x
  have HX : Hid (x.bv = .slice ba bs.length bc) := hx
  have HB : Hid (∀ w1, Kept (fun k => k = d ∨ k = s.fb ∨ k = r) w w1 → BytesAt w1 (.slice ba bs.length bc) bs) := fun w1 k => hb.kept k hlow
  have hbl' : (bs.length : Int) ≤ 200 := by omega
  have hnf := h.nf
  have HK1 : Hid (∀ W2 w1, Kept (fun _ => False) w W2 → Kept (fun k => k = d ∨ k = s.fb) W2.drew w1 → Kept (fun k => k = d ∨ k = s.fb ∨ k = r) w w1) := fun W2 w1 h0 h1 => (h0.drew.mono (fun _ _ e => e.elim)).trans (O := fun k => k = d ∨ k = s.fb ∨ k = r) h1 (fun _ _ e => e.elim Or.inl (fun e => Or.inr (Or.inl e)))
  have HK2 : Hid (∀ W2 w1, Kept (fun k => k = d ∨ k = s.fb ∨ k = r) w W2 → Kept (fun k => k = r) W2.drew w1 → Kept (fun k => k = d ∨ k = s.fb ∨ k = r) w w1) := fun W2 w1 h0 h1 => h0.drew.trans h1 (fun _ _ e => Or.inr (Or.inr e))
  have HL1 : Hid (∀ (W2 w1 : World) (g : Nat) {n c : Nat} {xs : List Value}, W2.ownsRow w.heap.size 5 1 (.slice (some ⟨g, 0, none⟩) n c) n xs → Kept (fun k => k = d ∨ k = s.fb) W2.drew w1 → w1.ownsRow w.heap.size 5 1 (.slice (some ⟨g, 0, none⟩) n c) n xs) := fun W2 w1 g n c xs h0 h1 => Kept.ownsRow (w := W2.drew) h1 h0 (fun b hb e => by
    have h2 := (h0.lt b hb).1
    have h3 := hnf b (e.elim Or.inl (fun e => Or.inr (Or.inl e)))
    omega)
  have HL2 : Hid (∀ (W2 w1 : World) (g : Nat) {n c : Nat} {xs : List Value}, W2.ownsRow w.heap.size 5 1 (.slice (some ⟨g, 0, none⟩) n c) n xs → Kept (fun k => k = r) W2.drew w1 → w1.ownsRow w.heap.size 5 1 (.slice (some ⟨g, 0, none⟩) n c) n xs) := fun W2 w1 g n c xs h0 h1 => Kept.ownsRow (w := W2.drew) h1 h0 (fun b hb e => by
    have h2 := (h0.lt b hb).1
    have h3 := hnf b (Or.inr (Or.inr e))
    omega)
  have HF : Hid (∀ (W4 W5 : World) (g : Nat) {n c : Nat} {xs : List Value}, W4.ownsRow w.heap.size 5 1 (.slice (some ⟨g, 0, none⟩) n c) n xs → Dead W4 d f r p s.begun v cap fv dv kv pv dir (cnt + 1) → Kept (fun k => k = d ∨ k = s.fb ∨ k = r) w W4 → Kept (fun k => k = g) W4 W5 → Dead W5 d f r p s.begun v cap fv dv kv pv dir (cnt + 1) ∧ Kept (fun k => k = d ∨ k = s.fb ∨ k = r) w W5) := fun W4 W5 g n c xs h0 h1 h2 h3 => by
    have hg := (h0.lt g rfl).1
    refine ⟨h1.kept h3 (fun b hb e => ?_), h2.trans h3 (fun i hi e => ?_)⟩
    · have := h.lt (b := b) hb
      omega
    · have e' : i = g := e
      omega
  rw [hx]
  clear hx hb hlow hop hnf
  go_enter Try.func26, Try.ntmps26
  go_wp2_with (go_at_call 58; obtain ⟨hB, hDd, hk⟩ := HS.out _ rfl; refine (lend_any _ bs _ (HB.out _ (hk.mono (fun _ _ e => e.elim))) (by omega)).mono ?_; rintro e W1 ⟨g, c, rfl, hlent, hbel⟩)
  refine goOn (S := fun W2 => Both p d r w.heap.size x 1 W2 ∧ Dead W2 d f r p s v cap fv dv kv pv dir cnt ∧ Kept (fun _ => False) w W2 ∧ W2.ownsRow w.heap.size 5 1 (.slice (some ⟨g, 0, none⟩) (bs.length + 4) c) (bs.length + 4) (byteVals (bs ++ marks))) ⟨hB.kept ((Kept.refl (fun _ => False) _).below hbel) id id, hDd.same ((Kept.refl (fun _ => False) _).below hbel) (fun _ e => e.elim), hk.below hbel, row_base hlent hk.size⟩ ?_
  clear hB hbel hlent hDd hk
  rintro W2 ⟨hB, hD2, hk2, hlent⟩
  obtain ⟨b0, b1, b2, b3, b4, b5, b6⟩ := hB.all
  go_wp2_with fail
  go_region_held3 (fun w' => w'.cell? ⟨p, 0, none⟩ = some (.pointer (some ⟨d, 0, none⟩)) ∧ w'.cell? ⟨p, 1, none⟩ = some (.pointer (some ⟨r, 0, none⟩)) ∧ w'.cell? ⟨w.heap.size, 0, none⟩ = some (.int .i64 1) ∧ w'.cell? ⟨w.heap.size, 3, none⟩ = some (.string x.name) ∧ w'.cell? ⟨w.heap.size, 4, none⟩ = some (.string x.dest) ∧ w'.cell? ⟨w.heap.size, 5, none⟩ = some x.bv ∧ Both p d r w.heap.size x 1 w')
    (first | (refine Both.all ?_; exact hB) | (refine Both.all ?_; assumption))
    (first
      | (go_at_call 15; refine (append_dead (hD2.disk.kept ((Kept.refl (fun _ => False) W2).drew) (fun _ _ e => e)) hD2.stop ho x.name _).mono ?_; rintro e w1 ⟨rfl, hI1, hk1⟩; obtain ⟨hB1, hD1⟩ := HP.out W2.drew w1 hB (hD2.same ((Kept.refl (fun _ => False) W2).drew) (fun _ e => e.elim)) hI1 hk1))
  all_goals
    refine goOn (S := fun W3 => Both p d r w.heap.size x 1 W3 ∧ Dead W3 d f r p s.begun v cap fv dv kv pv dir cnt ∧ Kept (fun k => k = d ∨ k = s.fb ∨ k = r) w W3 ∧ W3.ownsRow w.heap.size 5 1 (.slice (some ⟨g, 0, none⟩) (bs.length + 4) c) (bs.length + 4) (byteVals (bs ++ marks))) ⟨hB1, hD1, HK1.out _ _ hk2 hk1, HL1.out _ _ _ hlent hk1⟩ ?_
    clear b0 b1 b2 b3 b4 b5 b6 hB hlent hD2 hk2 hB1 hD1 hk1 hI1
    rintro W3 ⟨hB, hD3, hk3, hlent⟩
    obtain ⟨b0, b1, b2, b3, b4, b5, b6⟩ := hB.all
    go_wp2_with fail
    go_region_held3 (fun w' => w'.cell? ⟨p, 0, none⟩ = some (.pointer (some ⟨d, 0, none⟩)) ∧ w'.cell? ⟨p, 1, none⟩ = some (.pointer (some ⟨r, 0, none⟩)) ∧ w'.cell? ⟨w.heap.size, 0, none⟩ = some (.int .i64 1) ∧ w'.cell? ⟨w.heap.size, 3, none⟩ = some (.string x.name) ∧ w'.cell? ⟨w.heap.size, 4, none⟩ = some (.string x.dest) ∧ w'.cell? ⟨w.heap.size, 5, none⟩ = some x.bv ∧ Both p d r w.heap.size x 1 w')
      (first | (refine Both.all ?_; exact hB) | (refine Both.all ?_; assumption))
      (first
        | (go_at_call 23; refine (refAppend_dead (show RefAt W3.drew r cap fv dv kv pv (.slice none 0 0) 0 cnt from hD3.ref) hD3.c0 hc x.name _).mono ?_; rintro e w1 ⟨rfl, hR1, hk1⟩; obtain ⟨hB1, hD1⟩ := HD.out W3.drew w1 hB (hD3.same ((Kept.refl (fun _ => False) W3).drew) (fun _ e => e.elim)) hR1 hk1))
    all_goals
      refine goOn (S := fun W4 => Dead W4 d f r p s.begun v cap fv dv kv pv dir (cnt + 1) ∧ Kept (fun k => k = d ∨ k = s.fb ∨ k = r) w W4 ∧ W4.ownsRow w.heap.size 5 1 (.slice (some ⟨g, 0, none⟩) (bs.length + 4) c) (bs.length + 4) (byteVals (bs ++ marks))) ⟨hD1, HK2.out _ _ hk3 hk1, HL2.out _ _ _ hlent hk1⟩ ?_
      clear b0 b1 b2 b3 b4 b5 b6 hB hlent hD3 hk3 hB1 hD1 hk1 hR1
      rintro W4 ⟨hD4, hk4, hlent⟩
      go_wp2_with (go_at_call 59; refine (intact_any g c _ bs w.heap.size W4 hlent (HB.out W4 hk4) (by omega)).mono ?_; rintro e W5 ⟨rfl, hk5⟩)
      go_ret
      obtain ⟨j1, j2⟩ := HF.out _ _ _ hlent hD4 hk4 hk5
      exact ⟨rfl, j1, j2⟩
end

end Go.Proofs.Ytihoccaaecmcfaa
