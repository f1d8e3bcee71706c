/- All of the program: a clone of the bytes that so many samples can take. -/
import Derived.Test.YtkmclgbiedbfpaaDoorKj
import Derived.Test.YtkmclgbiedbfpaaDoorVq
import Derived.Test.YtkmclgbiedbfpaaDoorKv
namespace Go.Proofs.YtkmclgbiedbfpaaDoor
open Go.RowKit Go.Maps Go.Shelf

set_option maxRecDepth 100000 in
set_option maxHeartbeats 1000000 in
theorem cloneB_any (v : Value) (bs : List UInt8) (w : World) (h : BytesAt w v bs) (hl : bs.length ≤ 100000) :
    Calls Tryd.prog 44 #[v] w fun e w' => ∃ a c, e = .returned (.slice a bs.length c) ∧ BytesAt w' (.slice a bs.length c) bs ∧ Below w.heap.size w w' := by
  obtain ⟨a, c, rfl, hlc, -⟩ := id h
  have HL : Hid (∀ W, Below w.heap.size w W → BytesAt W (.slice a bs.length c) bs) := fun W hb => h.below hb
  have HA : Hid (Below w.heap.size w (w.alloc (.cells #[] 5))) := (Below.refl _ w).alloc (Nat.le_refl _) _
  have HE : Hid ((w.alloc (.cells #[] 5)).ownsRow w.heap.size 5 1 (.slice (some ⟨w.heap.size, 0, none⟩) 0 0) 0 []) := ⟨rfl, Or.inr ⟨w.heap.size, 0, #[], rfl, Nat.le_refl _, heap_alloc_new w _, Nat.le_refl _, Nat.zero_le _, rfl, rfl⟩⟩
  have HX : Hid (∀ w1, (w.alloc (.cells #[] 5)).grownBy w1 (Value.slice (some ⟨w.heap.size, 0, none⟩) 0 0).ownBlock → Below w.heap.size w w1) := fun w1 hg1 => HA.out.grown hg1 (by simp) (fun k hk => by simp [Value.ownBlock] at hk; omega)
  have qe : ∀ (w : World) (a : Option Addr) (n c n' c' : Nat), (binOp .eql 24 (.slice a n c) (.slice none n' c')).run Tryd.prog w = .ok (.bool a.isNone) w := fun w a n c n' c' => Lib.run_eql_slice_nil w _ _ a n c n' c' Tryd.underlying24
  clear h
  cases a with
  | none =>
    have hn0 : bs = [] := by
      cases bs with
      | nil => rfl
      | cons x t =>
        obtain ⟨b, o, e, -⟩ := (HL.out w (Below.refl _ _)).one 0 (by simp)
        cases e
    subst hn0
    go_enter Tryd.func44, Tryd.ntmps44
    go_wp2
    go_ret
    exact ⟨none, 0, rfl, BytesAt.nil, Below.refl _ _⟩
  | some ad =>
    go_enter Tryd.func44, Tryd.ntmps44
    go_wp2_with (at_builtin; refine wpList_append_bytes _ rfl _ _ rfl w.heap.size (.slice (some ⟨w.heap.size, 0, none⟩) 0 0) 0 [] rfl HE.out _ bs rfl (HL.out _ HA.out) (by omega) (by simp) ?_; intro v1 w1 hr1 hg1 _; have hb1 := HX.out _ hg1; rw [Nat.zero_add, List.nil_append] at hr1; obtain ⟨a1, c1, rfl⟩ := slice_of_row hr1)
    go_ret
    exact ⟨a1, c1, rfl, BytesAt.of_row hr1, hb1⟩

theorem parts_cut (v : Value) (bs : List UInt8) (w : World) (h : BytesAt w v bs) (hl : bs.length ≤ 100000) :
    ∃ cnt : Nat, cnt ≤ 65535 ∧ decR (bs.take (min bs.length (2 + (cnt * 145 + 7) / 8))) = decR bs ∧ Calls Tryd.prog 43 #[v] w fun e w' => ∃ v', e = .returned (.tuple #[.int .i64 (cnt : Int), v']) ∧ ∃ k, w' = w.drewN k := by
  match bs, h, hl with
  | [], h, _ => exact ⟨0, by omega, rfl, (parts_short v [] w h (by simp)).mono (fun e w' h9 => ⟨_, h9.1, 0, h9.2⟩)⟩
  | [x], h, _ => exact ⟨0, by omega, rfl, (parts_short v [x] w h (by simp)).mono (fun e w' h9 => ⟨_, h9.1, 0, h9.2⟩)⟩
  | x :: y :: t, h, hl =>
    have hx := x.toNat_lt
    have hy := y.toNat_lt
    refine ⟨x.toNat * 256 + y.toNat, by omega, ?_, (parts_any v x y t w h (by simp at hl; omega)).mono (fun e w' h9 => ?_)⟩
    · rw [← decR_cut x y t (((x.toNat * 256 + y.toNat) * 145 + 7) / 8) (by omega)]
      congr 1
      generalize ((x.toNat * 256 + y.toNat) * 145 + 7) / 8 = m
      have e : min (x :: y :: t).length (2 + m) = min t.length m + 2 := by simp; omega
      rw [e, List.take_succ_cons, List.take_succ_cons]
      congr 2
      rw [List.take_eq_take_iff]
      omega
    · obtain ⟨v', h1, -, k, h2⟩ := h9
      exact ⟨v', h1, k, h2⟩

set_option maxRecDepth 100000 in
set_option maxHeartbeats 1000000 in
/-- All hands back the closure of each, over a block that holds a clone. -/
theorem allC_any (v : Value) (bs : List UInt8) (w : World) (h : BytesAt w v bs) (hl : bs.length ≤ 100000) :
    Calls Tryd.prog 26 #[v] w fun e w' => ∃ (B : Nat) (v' : Value) (cs : List UInt8), e = .returned (.func (.func 49) #[] #[.pointer (some ⟨B, 0, none⟩)]) ∧ w'.cell? ⟨B, 0, none⟩ = some v' ∧ BytesAt w' v' cs ∧ cs.length ≤ 100000 ∧ decR cs = decR bs ∧ Below w.heap.size w w' := by
  obtain ⟨cnt, hcnt, hcut, hparts⟩ := parts_cut v bs w h hl
  obtain ⟨a, c, rfl, hlc, hnn, -⟩ := id h
  have hmx : (c : Int) ≤ 9223372036854775807 := by have h1 := hlc; unfold maxLen at h1; omega
  obtain ⟨m, hm⟩ : ∃ m, m = (cnt * 145 + 7) / 8 := ⟨_, rfl⟩
  obtain ⟨N, hN⟩ : ∃ N, N = min bs.length (2 + m) := ⟨_, rfl⟩
  rw [← hm, ← hN] at hcut
  have hS := h.take N (by omega)
  have HS : Hid (∀ W, Below w.heap.size w W → BytesAt W (.slice a N c) (bs.take N)) := fun W hb => hS.below hb
  have hNl : (bs.take N).length = N := by simp; omega
  have hmi : ((cnt : Int) * 145 + 7) / 8 = (m : Int) := by omega
  have hNi : min (bs.length : Int) (2 + (m : Int)) = (N : Int) := by omega
  have hNc : (N : Int) ≤ (c : Int) := by omega
  have HC : Hid (∀ W V, BytesAt W V (bs.take N) → Calls Tryd.prog 44 #[V] W fun e w' => ∃ a c, e = .returned (.slice a N c) ∧ BytesAt w' (.slice a N c) (bs.take N) ∧ Below W.heap.size W w') := fun W V hV => by
    have := cloneB_any V _ W hV (by omega)
    rw [hNl] at this
    exact this
  have HEA : Hid (∀ a1 c1 W, Calls Tryd.prog 38 #[.slice a1 N c1] W fun e w' => e = .returned (.func (.func 49) #[] #[.pointer (some ⟨W.heap.size, 0, none⟩)]) ∧ w' = W.alloc (.cells #[.slice a1 N c1] 24)) := fun a1 c1 W => each_any a1 N c1 W
  have HNL : Hid ((bs.take N).length = N) := hNl
  have HCUT : Hid (decR (bs.take N) = decR bs) := hcut
  have HNN : Hid (N ≤ 100000) := by show _ ≤ _; omega
  have ha : (a = none → N = 0 ∧ c = 0) := fun e => ⟨by have := (hnn e).2; subst this; simp at hN; omega, (hnn e).1⟩
  clear h hS hnn hNl hcut hm hN hlc
  generalize bs.take N = cs at *
  cases a with
  | none =>
    obtain ⟨rfl, rfl⟩ := ha rfl
    go_enter Tryd.func26, Tryd.ntmps26
    go_wp2_with (first
      | (go_at_call 43; refine hparts.mono ?_; clear hparts; rintro e w1 ⟨v1, rfl, k, rfl⟩; have hbk := below_drewN (Below.refl w.heap.size w) k; have hcl := HC.out _ _ (HS.out _ hbk); have HBK : Hid (Below w.heap.size w (w.drewN k)) := hbk; clear HC hbk)
      | (go_at_call 44; refine hcl.mono ?_; clear hcl; rintro e w2 ⟨a2, c2, rfl, hv2, hb2⟩; have HV2 : Hid (BytesAt w2 (.slice a2 0 c2) cs) := hv2; have HB2 : Hid (Below w.heap.size w w2) := HBK.out.trans (hb2.mono HBK.out.size); clear hv2 hb2)
      | (go_at_call 38; refine (HEA.out _ _ _).mono ?_; clear HEA; rintro e w3 ⟨rfl, rfl⟩))
    go_ret
    have hb3 : Below w2.heap.size w2 (w2.alloc (.cells #[.slice a2 0 c2] 24)) := (Below.refl _ _).alloc (Nat.le_refl _) _
    exact ⟨w2.heap.size, _, cs, rfl, World.news_of_block (heap_alloc_new w2 _) 0 _ rfl, HV2.out.below hb3, by rw [HNL.out]; exact HNN.out, HCUT.out, HB2.out.trans (hb3.mono HB2.out.size)⟩
  | some ad =>
    clear ha
    go_enter Tryd.func26, Tryd.ntmps26
    go_wp2_with (first
      | (go_at_call 43; refine hparts.mono ?_; clear hparts; rintro e w1 ⟨v1, rfl, k, rfl⟩; have hbk := below_drewN (Below.refl w.heap.size w) k; have hcl := HC.out _ _ (HS.out _ hbk); have HBK : Hid (Below w.heap.size w (w.drewN k)) := hbk; clear HC hbk)
      | (go_at_call 44; refine hcl.mono ?_; clear hcl; rintro e w2 ⟨a2, c2, rfl, hv2, hb2⟩; have HV2 : Hid (BytesAt w2 (.slice a2 N c2) cs) := hv2; have HB2 : Hid (Below w.heap.size w w2) := HBK.out.trans (hb2.mono HBK.out.size); clear hv2 hb2)
      | (go_at_call 38; refine (HEA.out _ _ _).mono ?_; clear HEA; rintro e w3 ⟨rfl, rfl⟩))
    go_ret
    have hb3 : Below w2.heap.size w2 (w2.alloc (.cells #[.slice a2 N c2] 24)) := (Below.refl _ _).alloc (Nat.le_refl _) _
    exact ⟨w2.heap.size, _, cs, rfl, World.news_of_block (heap_alloc_new w2 _) 0 _ rfl, HV2.out.below hb3, by rw [HNL.out]; exact HNN.out, HCUT.out, HB2.out.trans (hb3.mono HB2.out.size)⟩

end Go.Proofs.YtkmclgbiedbfpaaDoor
