/- Texts that belong together. -/
import Derived.Test.YtmbkcmfcdjccoaaDoorMP14
/- The reader of an expression: repeats in braces. -/
namespace Go.Proofs.YtmbkcmfcdjccoaaDoor
open Go.RowKit Go.Maps

/-- What the numbers come to, while a repeat is under way. -/
def CuP (w : World) (U : Nat) (s : ByteArray) (g p : Nat) (R : Rd (Nat × Int)) (e : Ending) (w' : World) : Prop := match R with
  | .no q => e = .returned (.tuple #[.int .i64 0, .int .i64 0, .bool false]) ∧ RpS w U s g p w' q 7 0 (-1) false 0
  | .yes (lo, hi) q => e = .returned (.tuple #[.int .i64 lo, .int .i64 hi, .bool true]) ∧ RpS w U s g p w' q 7 0 (-1) false 0
theorem counts_is {w : World} {U : Nat} {s : ByteArray} {g p i : Nat} (hU : U < w.heap.size) (hi : i ≤ s.size) (hs : s.size ≤ 1000000) : Hid (∀ W, RpS w U s g p W i 7 0 (-1) false 0 → Calls Tryd.prog 60 #[.pointer (some ⟨U, 0, none⟩)] W fun e w' => CuP w U s g p (countR s i) e w') := fun W hW => (counts_any U s i g W hW.rs.rd hi hs).mono (by
  intro e w' h
  cases hR : countR s i with
  | no q => rw [hR] at h; exact ⟨h.1, hW.on hU h.2.rd h.2.kept⟩
  | yes r q => rw [hR] at h; exact ⟨h.1, hW.on hU h.2.rd h.2.kept⟩)
theorem mul_in {a b : Int} (h0 : 0 ≤ a) (h1 : a ≤ 100) (h2 : 0 ≤ b) (h3 : b ≤ 2002) : 0 ≤ a * b ∧ a * b ≤ 200200 := ⟨Int.mul_nonneg h0 h2, Int.le_trans (Int.mul_le_mul h1 h3 h2 (by omega)) (by omega)⟩

set_option maxRecDepth 100000 in
set_option maxHeartbeats 4000000 in
theorem repeated_none (U p S0 : Nat) (s : ByteArray) (i g : Nat) (x : Nd) (w : World) (h : RdAt w U s i g) (hx : NdAt w (Fresh S0 w.heap.size) x p) (hU0 : U < S0) (hS : S0 ≤ w.heap.size) (h0 : 0 ≤ sizeN x) (hs : s.size ≤ 1000000) (h42 : seesB s i 42 = false) (h43 : seesB s i 43 = false) (h63 : seesB s i 63 = false) (h123 : seesB s i 123 = false) :
    Calls Tryd.prog 52 #[.pointer (some ⟨U, 0, none⟩), .pointer (some ⟨p, 0, none⟩)] w fun e w' => NdP w U s g S0 (repR s x i) e w' := by
  have hU := h.lt
  have HP := RpS.start (p := p) h
  have HP : Hid _ := HP
  have HU : Hid (U < w.heap.size) := hU
  have HX : Hid (NdAt w (Fresh S0 w.heap.size) x p) := hx
  have HK0 := RpS.skip (w := w) (g := g) (p := p) 42 h42 (over_no h42) hU hs
  have HK1 := RpS.skip (w := w) (g := g) (p := p) 43 h43 (over_no h43) hU hs
  rw [repR_none x h42 h43 h63 h123]
  have HK2 := RpS.skip (w := w) (g := g) (p := p) 63 h63 (over_no h63) hU hs
  have HK3 := RpS.skip (w := w) (g := g) (p := p) 123 h123 (over_no h123) hU hs
  clear h hx h42 h43 h63 h123
  go_enter Tryd.func52, Tryd.ntmps52
  go_wp2_with (first
    | (go_at_call 33; refine (HK0.out _ _ _ _ _ _ HP.out).mono ?_; clear HK0 HP; rintro e w0 ⟨rfl, hl⟩; have HP : Hid (RpS w U s g p w0 i 7 0 (-1) false 0) := hl; clear hl)
    | (go_at_call 33; refine (HK1.out _ _ _ _ _ _ HP.out).mono ?_; clear HK1 HP; rintro e w1 ⟨rfl, hl⟩; have HP : Hid (RpS w U s g p w1 i 7 0 (-1) false 0) := hl; clear hl)
    | (go_at_call 33; refine (HK2.out _ _ _ _ _ _ HP.out).mono ?_; clear HK2 HP; rintro e w2 ⟨rfl, hl⟩; have HP : Hid (RpS w U s g p w2 i 7 0 (-1) false 0) := hl; clear hl)
    | (go_at_call 33; refine (HK3.out _ _ _ _ _ _ HP.out).mono ?_; clear HK3 HP; rintro e w3 ⟨rfl, hl⟩; have HP : Hid (RpS w U s g p w3 i 7 0 (-1) false 0) := hl; clear hl))
  go_ret2
  exact ⟨p, rfl, HP.out.rs, (HP.out.nd HX.out hU0 hS).1, h0⟩

set_option maxRecDepth 100000 in
set_option maxHeartbeats 4000000 in
theorem repeated_refused (U p S0 : Nat) (s : ByteArray) (i g : Nat) (x : Nd) (w : World) (h : RdAt w U s i g) (hx : NdAt w (Fresh S0 w.heap.size) x p) (_hU0 : U < S0) (_hS : S0 ≤ w.heap.size) (_h0 : 0 ≤ sizeN x) (hs : s.size ≤ 1000000) (h42 : seesB s i 42 = false) (h43 : seesB s i 43 = false) (h63 : seesB s i 63 = false) (h123 : seesB s i 123 = true) (q : Nat) (hc : countR s (i + 1) = .no q) :
    Calls Tryd.prog 52 #[.pointer (some ⟨U, 0, none⟩), .pointer (some ⟨p, 0, none⟩)] w fun e w' => NdP w U s g S0 (repR s x i) e w' := by
  have hU := h.lt
  have HP := RpS.start (p := p) h
  have HP : Hid _ := HP
  have HU : Hid (U < w.heap.size) := hU
  have HX : Hid (NdAt w (Fresh S0 w.heap.size) x p) := hx
  have HK0 := RpS.skip (w := w) (g := g) (p := p) 42 h42 (over_no h42) hU hs
  have HK1 := RpS.skip (w := w) (g := g) (p := p) 43 h43 (over_no h43) hU hs
  rw [repR_brace x h42 h43 h63 h123]
  have HK2 := RpS.skip (w := w) (g := g) (p := p) 63 h63 (over_no h63) hU hs
  have HK3 := RpS.skip (w := w) (g := g) (p := p) 123 h123 (over_yes h123) hU hs
  have hlt := seesB_lt h123
  have HCT := counts_is (w := w) (g := g) (p := p) (s := s) (i := i + 1) hU hlt hs
  have hok := countR_ok (s := s) (i := i + 1) hlt
  rw [hc] at HCT ⊢
  have HCT2 : Hid (∀ W, RpS w U s g p W (i + 1) 7 0 (-1) false 0 → Calls Tryd.prog 60 #[.pointer (some ⟨U, 0, none⟩)] W fun e w' => e = .returned (.tuple #[.int .i64 0, .int .i64 0, .bool false]) ∧ RpS w U s g p w' q 7 0 (-1) false 0) := HCT.out
  clear h hx h42 h43 h63 h123 HCT hok hc
  dsimp only
  go_enter Tryd.func52, Tryd.ntmps52
  go_wp2_with (first
    | (go_at_call 33; refine (HK0.out _ _ _ _ _ _ HP.out).mono ?_; clear HK0 HP; rintro e w0 ⟨rfl, hl⟩; have HP : Hid (RpS w U s g p w0 i 7 0 (-1) false 0) := hl; clear hl)
    | (go_at_call 33; refine (HK1.out _ _ _ _ _ _ HP.out).mono ?_; clear HK1 HP; rintro e w1 ⟨rfl, hl⟩; have HP : Hid (RpS w U s g p w1 i 7 0 (-1) false 0) := hl; clear hl)
    | (go_at_call 33; refine (HK2.out _ _ _ _ _ _ HP.out).mono ?_; clear HK2 HP; rintro e w2 ⟨rfl, hl⟩; have HP : Hid (RpS w U s g p w2 i 7 0 (-1) false 0) := hl; clear hl)
    | (go_at_call 33; refine (HK3.out _ _ _ _ _ _ HP.out).mono ?_; clear HK3 HP; rintro e w3 ⟨rfl, hl⟩; have HP : Hid (RpS w U s g p w3 (i + 1) 7 0 (-1) false 0) := hl; clear hl)
    | (go_at_call 60; refine (HCT2.out _ HP.out).mono ?_; clear HCT2 HP; rintro e w4 ⟨rfl, hl⟩; have HP : Hid (RpS w U s g p w4 q 7 0 (-1) false 0) := hl; clear hl; have f4 := HP.out.fr 4; have f5 := HP.out.fr 5; have n4 := HP.out.n4; have n5 := HP.out.n5))
  go_ret2
  exact ⟨⟨_, rfl⟩, ((HP.out.put HU.out rfl).put HU.out rfl).rs⟩

set_option maxRecDepth 100000 in
set_option maxHeartbeats 4000000 in
theorem repeated_open (U p S0 : Nat) (s : ByteArray) (i g : Nat) (x : Nd) (w : World) (h : RdAt w U s i g) (hx : NdAt w (Fresh S0 w.heap.size) x p) (hU0 : U < S0) (hS : S0 ≤ w.heap.size) (h0 : 0 ≤ sizeN x) (hs : s.size ≤ 1000000) (h42 : seesB s i 42 = false) (h43 : seesB s i 43 = false) (h63 : seesB s i 63 = false) (h123 : seesB s i 123 = true) (lo : Nat) (q : Nat) (hc : countR s (i + 1) = .yes (lo, (-1)) q) :
    Calls Tryd.prog 52 #[.pointer (some ⟨U, 0, none⟩), .pointer (some ⟨p, 0, none⟩)] w fun e w' => NdP w U s g S0 (repR s x i) e w' := by
  have hU := h.lt
  have HP := RpS.start (p := p) h
  have HP : Hid _ := HP
  have HU : Hid (U < w.heap.size) := hU
  have HX : Hid (NdAt w (Fresh S0 w.heap.size) x p) := hx
  have HK0 := RpS.skip (w := w) (g := g) (p := p) 42 h42 (over_no h42) hU hs
  have HK1 := RpS.skip (w := w) (g := g) (p := p) 43 h43 (over_no h43) hU hs
  rw [repR_brace x h42 h43 h63 h123]
  have HK2 := RpS.skip (w := w) (g := g) (p := p) 63 h63 (over_no h63) hU hs
  have HK3 := RpS.skip (w := w) (g := g) (p := p) 123 h123 (over_yes h123) hU hs
  have hlt := seesB_lt h123
  have HCT := counts_is (w := w) (g := g) (p := p) (s := s) (i := i + 1) hU hlt hs
  have hok := countR_ok (s := s) (i := i + 1) hlt
  rw [hc] at HCT hok ⊢
  obtain ⟨o1, o2, o3, o4, o5, o6⟩ := hok
  have HCT2 : Hid (∀ W, RpS w U s g p W (i + 1) 7 0 (-1) false 0 → Calls Tryd.prog 60 #[.pointer (some ⟨U, 0, none⟩)] W fun e w' => e = .returned (.tuple #[.int .i64 lo, .int .i64 (-1), .bool true]) ∧ RpS w U s g p w' q 7 0 (-1) false 0) := HCT.out
  have HL := RpS.skip (w := w) (g := g) (p := p) (s := s) (j := q) (b := seesB s q 63) 63 rfl rfl hU hs
  have HC := capped_is
  have hsz := sizeN_top x
  have HZ : Hid (∀ W, Kept (fun k => k = U) w W → W.cell? ⟨p, 7, none⟩ = some (.int .i64 (sizeN x))) := fun W hW => (World.cell?_of_block (hW.block p hx.foot.2 (fun (e : p = U) => by have := hx.foot.1; omega))).trans hx.size
  obtain ⟨m0, m1⟩ := mul_in (a := lo) (b := sizeN x) (by omega) (by omega) h0 (by omega)
  have HT : Hid (∀ lz, capN (lo * sizeN x + sizeN x + 2) = sizeN (.times x lo (-1) lz)) := fun lz => by rw [sizeN_times, if_pos rfl]
  have HCP : Hid (0 ≤ capN (lo * sizeN x + sizeN x + 2)) := by show 0 ≤ min _ _; omega
  clear h hx h42 h43 h63 h123 HCT hc
  dsimp only
  generalize seesB s q 63 = L at *
  generalize overB s q 63 = J at *
  generalize sizeN x = Z at *
  go_enter Tryd.func52, Tryd.ntmps52
  go_wp2_with (first
    | (go_at_call 33; refine (HK0.out _ _ _ _ _ _ HP.out).mono ?_; clear HK0 HP; rintro e w0 ⟨rfl, hl⟩; have HP : Hid (RpS w U s g p w0 i 7 0 (-1) false 0) := hl; clear hl)
    | (go_at_call 33; refine (HK1.out _ _ _ _ _ _ HP.out).mono ?_; clear HK1 HP; rintro e w1 ⟨rfl, hl⟩; have HP : Hid (RpS w U s g p w1 i 7 0 (-1) false 0) := hl; clear hl)
    | (go_at_call 33; refine (HK2.out _ _ _ _ _ _ HP.out).mono ?_; clear HK2 HP; rintro e w2 ⟨rfl, hl⟩; have HP : Hid (RpS w U s g p w2 i 7 0 (-1) false 0) := hl; clear hl)
    | (go_at_call 33; refine (HK3.out _ _ _ _ _ _ HP.out).mono ?_; clear HK3 HP; rintro e w3 ⟨rfl, hl⟩; have HP : Hid (RpS w U s g p w3 (i + 1) 7 0 (-1) false 0) := hl; clear hl)
    | (go_at_call 60; refine (HCT2.out _ HP.out).mono ?_; clear HCT2 HP; rintro e w4 ⟨rfl, hl⟩; have HP : Hid (RpS w U s g p w4 q 7 0 (-1) false 0) := hl; clear hl; have f4 := HP.out.fr 4; have f5 := HP.out.fr 5; have n4 := HP.out.n4; have n5 := HP.out.n5)
    | (go_at_call 33; have hq := (HP.out.put (c := 4) (v := .int .i64 lo) (lo' := lo) HU.out rfl).put (c := 5) (v := .int .i64 (-1)) (hi' := (-1)) HU.out rfl; refine (HL.out _ _ _ _ _ _ hq).mono ?_; clear HL HP hq f4 f5 n4 n5; rintro e w5 ⟨rfl, hl⟩; have HP : Hid (RpS w U s g p w5 J 7 lo (-1) false 0) := hl; clear hl; have f6 := HP.out.fr 6; have f7 := HP.out.fr 7; have n6 := HP.out.n6; have n7 := HP.out.n7; have n0 := HP.out.n0; have n4 := HP.out.n4; have n5 := HP.out.n5; have z7 := HZ.out _ HP.out.rs.kept))
  go_region_with (go_at_call 34; refine (HC.out _ _ (lo * Z + Z + 2) (by simp only [IntKind.wrap_i64]; omega) (by omega) (by omega)).mono ?_; rintro e w6 ⟨rfl, rfl⟩)
  all_goals
    have HF : Hid (RpS w U s g p ((w5.setCell ⟨w.heap.size + 1, 6, none⟩ (.bool L)).setCell ⟨w.heap.size + 1, 7, none⟩ (.int .i64 (capN (lo * Z + Z + 2)))).drew J 7 lo (-1) L (capN (lo * Z + Z + 2))) := ((HP.out.put HU.out rfl).put HU.out rfl).drewN 1
    go_wp2
    go_ret2
    exact ⟨_, rfl, HF.out.rs, RpS.times HF.out HX.out hU0 hS (HT.out _), (HT.out L) ▸ HCP.out⟩
end Go.Proofs.YtmbkcmfcdjccoaaDoor

/- The reader of an expression: repeats with two numbers. -/
namespace Go.Proofs.YtmbkcmfcdjccoaaDoor
open Go.RowKit Go.Maps

theorem wrap_in {n : Int} (h1 : -9223372036854775808 ≤ n) (h2 : n ≤ 9223372036854775807) : IntKind.i64.wrap n = n := by
  rw [IntKind.wrap_i64]
  omega

set_option maxRecDepth 100000 in
set_option maxHeartbeats 4000000 in
theorem repeated_closed (U p S0 : Nat) (s : ByteArray) (i g : Nat) (x : Nd) (w : World) (h : RdAt w U s i g) (hx : NdAt w (Fresh S0 w.heap.size) x p) (hU0 : U < S0) (hS : S0 ≤ w.heap.size) (h0 : 0 ≤ sizeN x) (hs : s.size ≤ 1000000) (h42 : seesB s i 42 = false) (h43 : seesB s i 43 = false) (h63 : seesB s i 63 = false) (h123 : seesB s i 123 = true) (lo : Nat) (hi : Int) (hne : hi ≠ -1) (q : Nat) (hc : countR s (i + 1) = .yes (lo, hi) q) :
    Calls Tryd.prog 52 #[.pointer (some ⟨U, 0, none⟩), .pointer (some ⟨p, 0, none⟩)] w fun e w' => NdP w U s g S0 (repR s x i) e w' := by
  have hU := h.lt
  have HP := RpS.start (p := p) h
  have HP : Hid _ := HP
  have HU : Hid (U < w.heap.size) := hU
  have HX : Hid (NdAt w (Fresh S0 w.heap.size) x p) := hx
  have HK0 := RpS.skip (w := w) (g := g) (p := p) 42 h42 (over_no h42) hU hs
  have HK1 := RpS.skip (w := w) (g := g) (p := p) 43 h43 (over_no h43) hU hs
  rw [repR_brace x h42 h43 h63 h123]
  have HK2 := RpS.skip (w := w) (g := g) (p := p) 63 h63 (over_no h63) hU hs
  have HK3 := RpS.skip (w := w) (g := g) (p := p) 123 h123 (over_yes h123) hU hs
  have hlt := seesB_lt h123
  have HCT := counts_is (w := w) (g := g) (p := p) (s := s) (i := i + 1) hU hlt hs
  have hok := countR_ok (s := s) (i := i + 1) hlt
  rw [hc] at HCT hok ⊢
  obtain ⟨o1, o2, o3, o4, o5, o6⟩ := hok
  have HCT2 : Hid (∀ W, RpS w U s g p W (i + 1) 7 0 (-1) false 0 → Calls Tryd.prog 60 #[.pointer (some ⟨U, 0, none⟩)] W fun e w' => e = .returned (.tuple #[.int .i64 lo, .int .i64 hi, .bool true]) ∧ RpS w U s g p w' q 7 0 (-1) false 0) := HCT.out
  have HL := RpS.skip (w := w) (g := g) (p := p) (s := s) (j := q) (b := seesB s q 63) 63 rfl rfl hU hs
  have HC := capped_is
  have hsz := sizeN_top x
  have HZ : Hid (∀ W, Kept (fun k => k = U) w W → W.cell? ⟨p, 7, none⟩ = some (.int .i64 (sizeN x))) := fun W hW => (World.cell?_of_block (hW.block p hx.foot.2 (fun (e : p = U) => by have := hx.foot.1; omega))).trans hx.size
  obtain ⟨m0, m1⟩ := mul_in (a := lo) (b := sizeN x) (by omega) (by omega) h0 (by omega)
  obtain ⟨m2, m3⟩ := mul_in (a := hi - lo) (b := sizeN x + 1) (by omega) (by omega) (by omega) (by omega)
  have hnb : (hi == -1) = false := by simpa using hne
  have hl2 : (lo : Int) ≤ hi := by omega
  have HT : Hid (∀ lz, capN (lo * sizeN x + (hi - lo) * (sizeN x + 1)) = sizeN (.times x lo hi lz)) := fun lz => by rw [sizeN_times, if_neg hne]
  have HCP : Hid (0 ≤ capN (lo * sizeN x + (hi - lo) * (sizeN x + 1))) := by show 0 ≤ min _ _; omega
  have HWR : Hid (IntKind.i64.wrap (IntKind.i64.wrap (lo * sizeN x) + IntKind.i64.wrap (IntKind.i64.wrap (hi - lo) * IntKind.i64.wrap (sizeN x + 1))) = lo * sizeN x + (hi - lo) * (sizeN x + 1)) := by
    show _ = _
    rw [wrap_in (n := hi - lo) (by omega) (by omega), wrap_in (n := sizeN x + 1) (by omega) (by omega), wrap_in (n := lo * sizeN x) (by omega) (by omega), wrap_in (n := (hi - lo) * (sizeN x + 1)) (by omega) (by omega), wrap_in (by omega) (by omega)]
  clear o6
  clear h hx h42 h43 h63 h123 HCT hc
  dsimp only
  generalize seesB s q 63 = L at *
  generalize overB s q 63 = J at *
  generalize sizeN x = Z at *
  go_enter Tryd.func52, Tryd.ntmps52
  go_wp2_with (first
    | (go_at_call 33; refine (HK0.out _ _ _ _ _ _ HP.out).mono ?_; clear HK0 HP; rintro e w0 ⟨rfl, hl⟩; have HP : Hid (RpS w U s g p w0 i 7 0 (-1) false 0) := hl; clear hl)
    | (go_at_call 33; refine (HK1.out _ _ _ _ _ _ HP.out).mono ?_; clear HK1 HP; rintro e w1 ⟨rfl, hl⟩; have HP : Hid (RpS w U s g p w1 i 7 0 (-1) false 0) := hl; clear hl)
    | (go_at_call 33; refine (HK2.out _ _ _ _ _ _ HP.out).mono ?_; clear HK2 HP; rintro e w2 ⟨rfl, hl⟩; have HP : Hid (RpS w U s g p w2 i 7 0 (-1) false 0) := hl; clear hl)
    | (go_at_call 33; refine (HK3.out _ _ _ _ _ _ HP.out).mono ?_; clear HK3 HP; rintro e w3 ⟨rfl, hl⟩; have HP : Hid (RpS w U s g p w3 (i + 1) 7 0 (-1) false 0) := hl; clear hl)
    | (go_at_call 60; refine (HCT2.out _ HP.out).mono ?_; clear HCT2 HP; rintro e w4 ⟨rfl, hl⟩; have HP : Hid (RpS w U s g p w4 q 7 0 (-1) false 0) := hl; clear hl; have f4 := HP.out.fr 4; have f5 := HP.out.fr 5; have n4 := HP.out.n4; have n5 := HP.out.n5)
    | (go_at_call 33; have hq := (HP.out.put (c := 4) (v := .int .i64 lo) (lo' := lo) HU.out rfl).put (c := 5) (v := .int .i64 hi) (hi' := hi) HU.out rfl; refine (HL.out _ _ _ _ _ _ hq).mono ?_; clear HL HP hq f4 f5 n4 n5; rintro e w5 ⟨rfl, hl⟩; have HP : Hid (RpS w U s g p w5 J 7 lo hi false 0) := hl; clear hl; have f6 := HP.out.fr 6; have f7 := HP.out.fr 7; have n6 := HP.out.n6; have n7 := HP.out.n7; have n0 := HP.out.n0; have n4 := HP.out.n4; have n5 := HP.out.n5; have z7 := HZ.out _ HP.out.rs.kept))
  obtain ⟨W6, hW6⟩ : ∃ W6, W6 = w5.setCell ⟨w.heap.size + 1, 6, none⟩ (.bool L) := ⟨_, rfl⟩
  have HP6 : Hid (RpS w U s g p W6 J 7 lo hi L 0) := (by rw [hW6]; exact HP.out.put HU.out rfl)
  rw [← hW6]
  clear hW6 HP n0 n4 n5 n6 n7 f6 f7 z7
  have n4 := HP6.out.n4
  have n5 := HP6.out.n5
  have f7 := HP6.out.fr 7
  have n7 := HP6.out.n7
  have z7 := HZ.out _ HP6.out.rs.kept
  have HKS : Hid (∀ x, (W6.setCell ⟨w.heap.size + 1, 7, none⟩ (.int .i64 x)).drew.cell? ⟨w.heap.size + 1, 4, none⟩ = some (.int .i64 lo) ∧ (W6.setCell ⟨w.heap.size + 1, 7, none⟩ (.int .i64 x)).drew.cell? ⟨w.heap.size + 1, 5, none⟩ = some (.int .i64 hi) ∧ (W6.setCell ⟨w.heap.size + 1, 7, none⟩ (.int .i64 x)).drew.cell? ⟨p, 7, none⟩ = some (.int .i64 Z)) := fun x => by
    have h9 : RpS w U s g p (W6.setCell ⟨w.heap.size + 1, 7, none⟩ (.int .i64 x)).drew J 7 lo hi L x := (HP6.out.put HU.out rfl).drewN 1
    exact ⟨h9.n4, h9.n5, HZ.out _ h9.rs.kept⟩
  have hpne : p ≠ w.heap.size + 1 := by have := HX.out.foot.2; omega
  go_region_held3 (fun w' => w'.cell? ⟨w.heap.size + 1, 4, none⟩ = some (.int .i64 lo) ∧ w'.cell? ⟨w.heap.size + 1, 5, none⟩ = some (.int .i64 hi) ∧ w'.cell? ⟨p, 7, none⟩ = some (.int .i64 Z))
    (first | exact HKS.out _ | go_keep)
    (first | (go_at_call 34; refine (HC.out _ _ (lo * Z + (hi - lo) * (Z + 1)) HWR.out (by omega) (by omega)).mono ?_; rintro e w7 ⟨rfl, rfl⟩))
  all_goals
    have HF : Hid (RpS w U s g p (W6.setCell ⟨w.heap.size + 1, 7, none⟩ (.int .i64 (capN (lo * Z + (hi - lo) * (Z + 1))))).drew J 7 lo hi L (capN (lo * Z + (hi - lo) * (Z + 1)))) := (HP6.out.put HU.out rfl).drewN 1
    go_wp2
    go_ret2
    exact ⟨_, rfl, HF.out.rs, RpS.times HF.out HX.out hU0 hS (HT.out _), (HT.out L) ▸ HCP.out⟩
end Go.Proofs.YtmbkcmfcdjccoaaDoor

/- The reader of an expression: a question mark. -/
namespace Go.Proofs.YtmbkcmfcdjccoaaDoor
open Go.RowKit Go.Maps

set_option maxRecDepth 100000 in
set_option maxHeartbeats 4000000 in
theorem repeated_quest (U p S0 : Nat) (s : ByteArray) (i g : Nat) (x : Nd) (w : World) (h : RdAt w U s i g) (hx : NdAt w (Fresh S0 w.heap.size) x p) (hU0 : U < S0) (hS : S0 ≤ w.heap.size) (h0 : 0 ≤ sizeN x) (hs : s.size ≤ 1000000) (h42 : seesB s i 42 = false) (h43 : seesB s i 43 = false) (h63 : seesB s i 63 = true) :
    Calls Tryd.prog 52 #[.pointer (some ⟨U, 0, none⟩), .pointer (some ⟨p, 0, none⟩)] w fun e w' => NdP w U s g S0 (repR s x i) e w' := by
  have hU := h.lt
  have HP := RpS.start (p := p) h
  have HP : Hid _ := HP
  have HU : Hid (U < w.heap.size) := hU
  have HX : Hid (NdAt w (Fresh S0 w.heap.size) x p) := hx
  have HK0 := RpS.skip (w := w) (g := g) (p := p) 42 h42 (over_no h42) hU hs
  have HK1 := RpS.skip (w := w) (g := g) (p := p) 43 h43 (over_no h43) hU hs
  rw [repR_quest x h42 h43 h63]
  have HK2 := RpS.skip (w := w) (g := g) (p := p) 63 h63 (over_yes h63) hU hs
  have HL := RpS.skip (w := w) (g := g) (p := p) (s := s) (j := i + 1) (b := seesB s (i + 1) 63) 63 rfl rfl hU hs
  have HC := capped_is
  have hsz := sizeN_top x
  have HZ : Hid (∀ W, Kept (fun k => k = U) w W → W.cell? ⟨p, 7, none⟩ = some (.int .i64 (sizeN x))) := fun W hW => (World.cell?_of_block (hW.block p hx.foot.2 (fun (e : p = U) => by have := hx.foot.1; omega))).trans hx.size
  have HT : Hid (∀ lz, capN (sizeN x + 1) = sizeN (.times x 0 1 lz)) := fun lz => by rw [sizeN_times, if_neg (by decide)]; simp
  have HCP : Hid (0 ≤ capN (sizeN x + 1)) := by show 0 ≤ min _ _; omega
  clear h hx h42 h43 h63
  generalize seesB s (i + 1) 63 = L at *
  generalize overB s (i + 1) 63 = J at *
  generalize sizeN x = Z at *
  go_enter Tryd.func52, Tryd.ntmps52
  go_wp2_with (first
    | (go_at_call 33; refine (HK0.out _ _ _ _ _ _ HP.out).mono ?_; clear HK0 HP; rintro e w0 ⟨rfl, hl⟩; have HP : Hid (RpS w U s g p w0 i 7 0 (-1) false 0) := hl; clear hl)
    | (go_at_call 33; refine (HK1.out _ _ _ _ _ _ HP.out).mono ?_; clear HK1 HP; rintro e w1 ⟨rfl, hl⟩; have HP : Hid (RpS w U s g p w1 i 7 0 (-1) false 0) := hl; clear hl)
    | (go_at_call 33; refine (HK2.out _ _ _ _ _ _ HP.out).mono ?_; clear HK2 HP; rintro e w2 ⟨rfl, hl⟩; have HP : Hid (RpS w U s g p w2 (i + 1) 7 0 (-1) false 0) := hl; clear hl; have f5 := HP.out.fr 5; have n5 := HP.out.n5)
    | (go_at_call 33; have hq := HP.out.put (c := 5) (v := .int .i64 1) (hi' := 1) HU.out rfl; refine (HL.out _ _ _ _ _ _ hq).mono ?_; clear HL HP hq f5 n5; rintro e w5 ⟨rfl, hl⟩; have HP : Hid (RpS w U s g p w5 J 7 0 1 false 0) := hl; clear hl; have f6 := HP.out.fr 6; have f7 := HP.out.fr 7; have n6 := HP.out.n6; have n7 := HP.out.n7; have n0 := HP.out.n0; have n4 := HP.out.n4; have n5 := HP.out.n5; have z7 := HZ.out _ HP.out.rs.kept))
  obtain ⟨W6, hW6⟩ : ∃ W6, W6 = w5.setCell ⟨w.heap.size + 1, 6, none⟩ (.bool L) := ⟨_, rfl⟩
  have HP6 : Hid (RpS w U s g p W6 J 7 0 1 L 0) := (by rw [hW6]; exact HP.out.put HU.out rfl)
  rw [← hW6]
  clear hW6 HP n0 n4 n5 n6 n7 f6 f7 z7
  have n4 := HP6.out.n4
  have n5 := HP6.out.n5
  have f7 := HP6.out.fr 7
  have n7 := HP6.out.n7
  have z7 := HZ.out _ HP6.out.rs.kept
  have HKS : Hid (∀ x, (W6.setCell ⟨w.heap.size + 1, 7, none⟩ (.int .i64 x)).drew.cell? ⟨w.heap.size + 1, 4, none⟩ = some (.int .i64 0) ∧ (W6.setCell ⟨w.heap.size + 1, 7, none⟩ (.int .i64 x)).drew.cell? ⟨w.heap.size + 1, 5, none⟩ = some (.int .i64 1) ∧ (W6.setCell ⟨w.heap.size + 1, 7, none⟩ (.int .i64 x)).drew.cell? ⟨p, 7, none⟩ = some (.int .i64 Z)) := fun x => by
    have h9 : RpS w U s g p (W6.setCell ⟨w.heap.size + 1, 7, none⟩ (.int .i64 x)).drew J 7 0 1 L x := (HP6.out.put HU.out rfl).drewN 1
    exact ⟨h9.n4, h9.n5, HZ.out _ h9.rs.kept⟩
  have hpne : p ≠ w.heap.size + 1 := by have := HX.out.foot.2; omega
  go_region_held3 (fun w' => w'.cell? ⟨w.heap.size + 1, 4, none⟩ = some (.int .i64 0) ∧ w'.cell? ⟨w.heap.size + 1, 5, none⟩ = some (.int .i64 1) ∧ w'.cell? ⟨p, 7, none⟩ = some (.int .i64 Z))
    (first | exact HKS.out _ | go_keep)
    (first | (go_at_call 34; refine (HC.out _ _ (Z + 1) (by simp only [IntKind.wrap_i64]; omega) (by omega) (by omega)).mono ?_; rintro e w7 ⟨rfl, rfl⟩))
  all_goals
    have HF : Hid (RpS w U s g p (W6.setCell ⟨w.heap.size + 1, 7, none⟩ (.int .i64 (capN (Z + 1)))).drew J 7 0 1 L (capN (Z + 1))) := (HP6.out.put HU.out rfl).drewN 1
    go_wp2
    go_ret2
    exact ⟨_, rfl, HF.out.rs, RpS.times (lo := 0) HF.out HX.out hU0 hS (HT.out _), (HT.out L) ▸ HCP.out⟩
end Go.Proofs.YtmbkcmfcdjccoaaDoor
