/- DiskNever, walked. -/
import Derived.Test.YtihoccaaecmcfaaRg
namespace Go.Proofs.Ytihoccaaecmcfaa
open Go.RowKit Go.Maps Go.Sort
open Go.WideMaps Go.WideElems

/-- The pair stands when its two blocks are boxed. -/
theorem nv_start {w0 w : World} {B f r : Nat} {v pv fv dv kv rpv : Value} (_hB : w0.heap.size ≤ B) (h : Wk w0 w (B + 3) f (nS B f pv 2 2 0) ⟨v, xy, 0⟩) (hR : RefAt w r 1000 fv dv kv rpv (.slice none 0 0) 0 2) (hD : w.ownsRow r 99 2 dv 1 (entCells [(nmA, 0)])) (hr : w0.heap.size ≤ r) :
    Nv w0 (w.alloc (.cells #[.pointer (some ⟨B + 3, 0, none⟩), .pointer (some ⟨r, 0, none⟩)] 29)) (B + 3) f r w.heap.size (nS B f pv 2 2 0) v 1000 fv dv kv rpv [(nmA, 0)] 0 := by
  have k : Kept (fun _ => False) w (w.alloc (.cells #[.pointer (some ⟨B + 3, 0, none⟩), .pointer (some ⟨r, 0, none⟩)] 29)) := (Kept.refl _ w).alloc _
  have h2 := wk_alloc h (.cells #[.pointer (some ⟨B + 3, 0, none⟩), .pointer (some ⟨r, 0, none⟩)] 29)
  exact ⟨⟨h2.disk, rfl, h2.file, hR.kept k id, row_base (k.ownsRow hD (fun _ _ e => e)) (Nat.zero_le _), heap_alloc_new w _, by omega⟩, rfl, rfl, rfl, by show (2 : Int) = 2 + ((0 : Nat) : Int); omega, by simp, h.lo _ (Or.inl rfl), h.lo _ (Or.inr (Or.inr (Or.inr (Or.inl rfl)))), hr, h2.bel⟩

set_option maxRecDepth 100000 in
set_option maxHeartbeats 4000000 in
theorem never_some (b off len cap : Nat) (fo : Nat → OpV) (w : World) (hlt : b < w.heap.size) (hop : ∀ i, i < len → OpAt w b (off + i * 7) (fo i)) :
    Calls Try.prog 5 #[.slice (some ⟨b, off, none⟩) len cap] w fun e w' => e = .returned (.bool true) ∧ Below w.heap.size w w' := by
  have hcv := fun (w : World) (C : Array Value) (n c : Nat) => Lib.run_convert_bytes_const (P := Try.prog) w 31 5 C n c Try.underlying31 Try.underlying5
  have HO : Hid (∀ i, i < len → OpAt w b (off + i * 7) (fo i)) := hop
  clear hop
  go_enter Try.func5, Try.ntmps5
  go_wp2_with (first
    | (go_at_call 8; refine (new_any 1000 _).mono ?_; rintro e w1 ⟨rfl, hI1, hb1⟩)
    | (go_at_call 14; refine (n_create w w1 hb1 w.heap.size (Nat.le_refl _) hI1).mono ?_; rintro e w2 ⟨rfl, f, pv, h2⟩)
    | (go_at_call 15; refine (n_append w w2 _ _ f pv h2).mono ?_; rintro e w3 ⟨rfl, v, h3⟩)
    | (go_at_call 21; refine (n_stop w w3 _ f _ pv v h3).mono ?_; rintro e w4 ⟨rfl, h4⟩; have hsz4 := h4.bel.size)
    | (go_at_call 9; refine (refNew 1000 w4).mono ?_; rintro e w5 ⟨rfl, hR5, hb5⟩; have hI5 := ref_new hR5; have h5 := h4.below hb5)
    | (go_at_call 22; refine (n_refCreate hI5).mono ?_; rintro e w6 ⟨rfl, fv, dv, rpv, hI6, hk6⟩; have h6 := h5.kt hk6 hsz4)
    | (go_at_call 23; refine (n_refAppend hI6).mono ?_; rintro e w7 ⟨rfl, v7, hI7, hk7⟩; have h7 := h6.kt hk7 hsz4)
    | (go_at_call 24; refine (refStop hI7.at_).mono ?_; rintro e w8 ⟨rfl, hR8, hk8⟩; have h8 := h7.kt (hI7.at_.kt hI7.lo hk8) hsz4; have hD8 := hk8.ownsRow hI7.rD (fun k hk e => hI7.at_.ne_row hI7.rD (by decide) (e ▸ hk))))
  have hR8' : RefAt w8 w4.heap.size 1000 fv dv (.slice none 0 0) rpv (.slice none 0 0) 0 2 := hR8
  have hD8' : w8.ownsRow w4.heap.size 99 2 dv 1 (entCells [(nmA, 0)]) := hD8
  have HN : Hid (Nv w (w8.alloc (.cells #[.pointer (some ⟨w.heap.size + 3, 0, none⟩), .pointer (some ⟨w4.heap.size, 0, none⟩)] 29)) (w.heap.size + 3) f w4.heap.size w8.heap.size (nS w.heap.size f pv 2 2 0) v 1000 fv dv (.slice none 0 0) rpv [(nmA, 0)] 0) := nv_start (Nat.le_refl _) h8 hR8' hD8' hsz4
  generalize w4.heap.size = r at *
  generalize w8.heap.size = p at *
  generalize w.heap.size + 3 = d at *
  go_loopw [6] (fun i wr => ∃ (k : Nat) (s : St), k ≤ len ∧ k ≤ 200 ∧ i = .int .i64 k ∧ Nv w wr d f r p s v 1000 fv dv (.slice none 0 0) rpv [(nmA, 0)] k) (fun i _ => 200 - (intOf i).toNat)
  case atStart => exact ⟨0, _, Nat.zero_le _, Nat.zero_le _, rfl, HN.out⟩
  case round =>
    obtain ⟨k, s, hk, hk1, rfl, hN⟩ := hrel
    by_cases hlk : k < len
    · by_cases h200 : k < 200
      · have hO := (HO.out k hlk).below hN.bel hlt
        have HX : Hid (∀ W, Kept (fun _ => False) wr W → Calls Try.prog 26 #[.pointer (some ⟨p, 0, none⟩), .agg #[.int .i64 ((fo k).act % 6), .int .i64 (fo k).n, .int .i64 (fo k).k, .string (fo k).name, .string (fo k).dest, (fo k).bv, (fo k).cv]] W fun e w' => e = .returned (.bool true) ∧ Nv w w' d f r p s.begun v 1000 fv dv (.slice none 0 0) rpv [(nmA, 0)] (k + 1)) := fun W hW => hN.op (by omega) hW (fo k) (HO.out k hlk)
        generalize fo k = x at *
        obtain ⟨act, xn, xk, name, dest, bv, bs, cv, cs⟩ := x
        obtain ⟨o0, o1, o2, o3, o4, o5, o6, wa, _, _, _, _, hby, _, hcu, _⟩ := hO
        obtain ⟨ba, bc, e1, _, _⟩ := hby.shape
        obtain ⟨⟨ca, cc, e2⟩, _⟩ := hcu
        simp only at e1 e2 o0 o1 o2 o3 o4 o5 o6 wa
        subst e1 e2
        have hact := bounds_i64 wa
        clear hby wa
        go_wp2_with (first
          | (go_at_call 25; refine (within_any act 6 _ (by omega) (by omega) (by omega) (by omega)).mono ?_; rintro e W1 ⟨rfl, rfl⟩)
          | (go_at_call 26; refine (HX.out _ ((Kept.refl _ _).alloc _)).mono ?_; rintro e W2 ⟨rfl, hN2⟩)
          | (go_at_call 19; refine hN2.read.mono ?_; rintro e W3 ⟨v3, rfl, hr3, hN3⟩; have hstr := strOf_row hr3; obtain ⟨a3, c3, rfl⟩ := slice_of_row hr3)
          | (go_at_call 27; refine hN3.list.mono ?_; rintro e W4 ⟨a4, c4, rfl, hN4⟩)
          | (go_at_call 28; refine hN4.tells.mono ?_; rintro e W5 ⟨rfl, rfl⟩))
        go_roundw
        case rel => exact ⟨k + 1, _, by omega, by omega, by go_num, hN4⟩
        case measure => simp [intOf]; omega
      · go_wp2_with (go_at_call 13; refine (wakes_any _).mono ?_; rintro e w9 ⟨rfl, hb9⟩)
        go_ret
        exact ⟨rfl, hN.bel.trans (hb9.mono hN.bel.size)⟩
    · go_wp2_with (go_at_call 13; refine (wakes_any _).mono ?_; rintro e w9 ⟨rfl, hb9⟩)
      go_ret
      exact ⟨rfl, hN.bel.trans (hb9.mono hN.bel.size)⟩

set_option maxRecDepth 100000 in
set_option maxHeartbeats 4000000 in
theorem never_zero (oa : Option Addr) (cap : Nat) (w : World) :
    Calls Try.prog 5 #[.slice oa 0 cap] w fun e w' => e = .returned (.bool true) ∧ Below w.heap.size w w' := by
  have hcv := fun (w : World) (C : Array Value) (n c : Nat) => Lib.run_convert_bytes_const (P := Try.prog) w 31 5 C n c Try.underlying31 Try.underlying5
  go_enter Try.func5, Try.ntmps5
  go_wp2_with (first
    | (go_at_call 8; refine (new_any 1000 _).mono ?_; rintro e w1 ⟨rfl, hI1, hb1⟩)
    | (go_at_call 14; refine (n_create w w1 hb1 w.heap.size (Nat.le_refl _) hI1).mono ?_; rintro e w2 ⟨rfl, f, pv, h2⟩)
    | (go_at_call 15; refine (n_append w w2 _ _ f pv h2).mono ?_; rintro e w3 ⟨rfl, v, h3⟩)
    | (go_at_call 21; refine (n_stop w w3 _ f _ pv v h3).mono ?_; rintro e w4 ⟨rfl, h4⟩; have hsz4 := h4.bel.size)
    | (go_at_call 9; refine (refNew 1000 w4).mono ?_; rintro e w5 ⟨rfl, hR5, hb5⟩; have hI5 := ref_new hR5; have h5 := h4.below hb5)
    | (go_at_call 22; refine (n_refCreate hI5).mono ?_; rintro e w6 ⟨rfl, fv, dv, rpv, hI6, hk6⟩; have h6 := h5.kt hk6 hsz4)
    | (go_at_call 23; refine (n_refAppend hI6).mono ?_; rintro e w7 ⟨rfl, v7, hI7, hk7⟩; have h7 := h6.kt hk7 hsz4)
    | (go_at_call 24; refine (refStop hI7.at_).mono ?_; rintro e w8 ⟨rfl, hR8, hk8⟩; have h8 := h7.kt (hI7.at_.kt hI7.lo hk8) hsz4; have hD8 := hk8.ownsRow hI7.rD (fun k hk e => hI7.at_.ne_row hI7.rD (by decide) (e ▸ hk))))
  have hR8' : RefAt w8 w4.heap.size 1000 fv dv (.slice none 0 0) rpv (.slice none 0 0) 0 2 := hR8
  have hD8' : w8.ownsRow w4.heap.size 99 2 dv 1 (entCells [(nmA, 0)]) := hD8
  have HN : Hid (Nv w (w8.alloc (.cells #[.pointer (some ⟨w.heap.size + 3, 0, none⟩), .pointer (some ⟨w4.heap.size, 0, none⟩)] 29)) (w.heap.size + 3) f w4.heap.size w8.heap.size (nS w.heap.size f pv 2 2 0) v 1000 fv dv (.slice none 0 0) rpv [(nmA, 0)] 0) := nv_start (Nat.le_refl _) h8 hR8' hD8' hsz4
  generalize w4.heap.size = r at *
  generalize w8.heap.size = p at *
  generalize w.heap.size + 3 = d at *
  go_loopw [6] (fun i wr => i = .int .i64 0 ∧ ∃ s, Nv w wr d f r p s v 1000 fv dv (.slice none 0 0) rpv [(nmA, 0)] 0) (fun _ _ => 0)
  case atStart => exact ⟨rfl, _, HN.out⟩
  case round =>
    obtain ⟨rfl, s, hN⟩ := hrel
    go_wp2_with (go_at_call 13; refine (wakes_any _).mono ?_; rintro e w9 ⟨rfl, hb9⟩)
    go_ret
    exact ⟨rfl, hN.bel.trans (hb9.mono hN.bel.size)⟩

end Go.Proofs.Ytihoccaaecmcfaa
