/- Texts that belong together. -/
import Derived.Test.YtmbkcmfcdjccoaaDoorMP8
/- The reader of an expression: a class. -/
namespace Go.Proofs.YtmbkcmfcdjccoaaDoor
open Go.RowKit Go.Maps

instance (l : List Sp) : Decidable (Ok32 l) := by unfold Ok32; infer_instance
theorem let_ok : ∀ n : Fin 256, ((letS (UInt8.ofNat n.val)).map fun l => decide (Ok32 l) && !l.isEmpty).getD true = true := by unfold Ok32 maxR; decide +kernel
theorem letS_ok {c : UInt8} {l : List Sp} (h : letS c = some l) : Ok32 l ∧ l ≠ [] := by
  have h9 := let_ok ⟨c.toNat, c.toNat_lt⟩
  rw [UInt8.ofNat_toNat, h] at h9
  simpa using h9
theorem Ok32.one {x y : Int} (h0 : 0 ≤ x) (h1 : x ≤ y) (h2 : y ≤ maxR) : Ok32 [(x, y)] := fun s hs => by rw [List.mem_singleton.1 hs]; exact ⟨h0, h1, h2⟩
theorem escR_ok2 {s : ByteArray} {i p : Nat} {l : List Sp} {al : Bool} (h : escR s i = .yes (l, al) p) : Ok32 l ∧ l ≠ [] := by
  unfold escR at h
  split at h
  · cases h
  · split at h
    · rename_i hl
      cases h
      exact letS_ok hl
    · split at h
      · rename_i he
        cases h
        obtain ⟨h1, h2⟩ := escB_in he
        exact ⟨Ok32.one h1 (Int.le_refl _) h2, by simp⟩
      · cases h
theorem memR_ok2 {s : ByteArray} {i p : Nat} {first : Bool} {l : List Sp} {al : Bool} (hi : i ≤ s.size) (h : memR s i first = .yes (l, al) p) : Ok32 l ∧ l ≠ [] := by
  unfold memR at h
  split at h
  · cases h
  · rename_i hne
    have hlt : i < s.size := by omega
    obtain ⟨k1, k2, k3⟩ := charR_ok hlt
    split at h
    · exact escR_ok2 h
    · split at h
      · cases h
      · cases h
        exact ⟨Ok32.one (by omega) (Int.le_refl _) (by unfold maxR; omega), by simp⟩
/-- What may be said of a piece. -/
def PcOk (s : ByteArray) (i : Nat) : Rd (List Sp) → Prop
  | .no p => i ≤ p ∧ p ≤ s.size
  | .yes l p => i < p ∧ p ≤ s.size ∧ Ok32 l ∧ l.length ≤ 5 ∧ l ≠ []
theorem pieceR_ok {s : ByteArray} {i : Nat} (first : Bool) (hi : i ≤ s.size) : PcOk s i (pieceR s i first) := by
  have h1 := memR_ok first hi
  cases hm : memR s i first with
  | no p =>
    rw [hm] at h1
    have : pieceR s i first = .no p := by unfold pieceR; rw [hm]
    rw [this]
    exact h1
  | yes x p =>
    obtain ⟨l, al⟩ := x
    have h2 := memR_ok2 hi hm
    rw [hm] at h1
    obtain ⟨o1, o2, o3, o4, o5⟩ := h1
    cases al with
    | false =>
      have : pieceR s i first = .yes l p := by unfold pieceR; rw [hm]; exact if_pos (.inl rfl)
      rw [this]
      exact ⟨o1, o2, h2.1, o4, h2.2⟩
    | true =>
      obtain ⟨x, rfl, x0, x1⟩ := o5 rfl
      rw [pieceR_go hm]
      split
      · exact ⟨o1, o2, h2.1, o4, h2.2⟩
      · rename_i hc
        have hlt : p < s.size := by
          by_cases hd : seesB s p 45 = true
          · exact seesB_lt hd
          · exact absurd (.inl (by simpa using hd)) hc
        unfold restR
        split
        · exact ⟨by omega, by omega⟩
        · have h3 := memR_ok (s := s) (i := p + 1) false (by omega)
          cases hm2 : memR s (p + 1) false with
          | no r =>
            rw [hm2] at h3
            exact ⟨by have := h3.1; omega, h3.2⟩
          | yes y r =>
            obtain ⟨l2, al2⟩ := y
            rw [hm2] at h3
            obtain ⟨u1, u2, u3, u4, u5⟩ := h3
            dsimp only
            split
            · exact ⟨by omega, by omega⟩
            · rename_i hc2
              cases al2 with
              | false => exact absurd (.inl rfl) hc2
              | true =>
                obtain ⟨y, rfl, y0, y1⟩ := u5 rfl
                refine ⟨by omega, u2, Ok32.one x0 ?_ y1, by simp, by simp⟩
                have : ¬ y < x := fun h => hc2 (.inr h)
                show x ≤ y
                omega
theorem otherS_mem : ∀ (l : List Sp) (f : Int), RiseS l f → (∀ s ∈ l, s.2 ≤ maxR) → ∀ c, f ≤ c → c ≤ maxR → memS (otherS l f) c = !memS l c
  | [], f, hr, hm, c, h1, h2 => by
    unfold otherS
    rw [if_pos (by omega), memS_one]
    simp [memS, h1, h2]
  | s :: t, f, hr, hm, c, h1, h2 => by
    obtain ⟨r1, r2, r3⟩ := hr
    unfold otherS
    rw [memS_append, show (s :: t) = [s] ++ t from rfl, memS_append, memS_one]
    have hlow : ∀ (l : List Sp) (f : Int), RiseS l f → ∀ c, c < f → memS l c = false ∧ memS (otherS l f) c = false := by
      intro l
      induction l with
      | nil =>
        intro f _ c hc
        refine ⟨rfl, ?_⟩
        unfold otherS
        split
        · rw [memS_one]; simp; omega
        · rfl
      | cons a u ih =>
        intro f ⟨q1, q2, q3⟩ c hc
        have := ih (a.2 + 1) q3 c (by omega)
        refine ⟨?_, ?_⟩
        · rw [show (a :: u) = [a] ++ u from rfl, memS_append, this.1, memS_one]; simp; omega
        · unfold otherS
          rw [memS_append, this.2]
          split
          · rw [memS_one]; simp; omega
          · rfl
    by_cases hc : c ≤ s.2
    · obtain ⟨e1, e2⟩ := hlow t (s.2 + 1) r3 c (by omega)
      rw [e1, e2]
      split
      · rw [memS_one]
        by_cases h3 : s.1 ≤ c
        · simp [h3, hc]; omega
        · simp [h3, h1]; omega
      · have : s.1 ≤ c := by omega
        simp [memS, this, hc]
    · have ih := otherS_mem t (s.2 + 1) r3 (fun x hx => hm x (by simp [hx])) c (by omega) h2
      rw [ih]
      have e0 : memS (if f < s.1 then [(f, s.1 - 1)] else []) c = false := by
        split
        · rw [memS_one]; simp; omega
        · rfl
      rw [e0]
      simp [hc]
theorem otherS_rise : ∀ (l : List Sp) (f : Int), RiseS l f → RiseS (otherS l f) f
  | [], f, _ => by
    unfold otherS
    split
    · exact ⟨Int.le_refl _, by assumption, trivial⟩
    · trivial
  | s :: t, f, hr => by
    obtain ⟨r1, r2, r3⟩ := hr
    have ih := otherS_rise t (s.2 + 1) r3
    have hmono : ∀ (l : List Sp) (f g : Int), g ≤ f → RiseS l f → RiseS l g := by
      intro l f g hg h
      cases l with
      | nil => trivial
      | cons a u => exact ⟨by have := h.1; omega, h.2⟩
    unfold otherS
    split
    · exact ⟨Int.le_refl _, by show f ≤ s.1 - 1; omega, hmono _ _ _ (by show s.1 - 1 + 1 ≤ s.2 + 1; omega) ih⟩
    · exact hmono _ _ _ (by omega) ih
theorem otherS_ok : ∀ (l : List Sp) (f : Int), 0 ≤ f → RiseS l f → (∀ s ∈ l, s.2 ≤ maxR) → Ok32 (otherS l f)
  | [], f, h0, _, _ => by
    unfold otherS
    split
    · exact Ok32.one h0 (by assumption) (Int.le_refl _)
    · exact fun s hs => by cases hs
  | s :: t, f, h0, hr, hm => by
    obtain ⟨r1, r2, r3⟩ := hr
    have ih := otherS_ok t (s.2 + 1) (by omega) r3 (fun x hx => hm x (by simp [hx]))
    have := hm s (by simp)
    unfold otherS
    refine Ok32.append ?_ ih
    split
    · exact Ok32.one h0 (by show f ≤ s.1 - 1; omega) (by show s.1 - 1 ≤ maxR; omega)
    · exact fun s hs => by cases hs
/-- The spans that stand for a class. -/
structure ClsOk (A l : List Sp) (neg : Bool) : Prop where
  rise : RiseS A 0
  ok : Ok32 A
  mem : ∀ c, 0 ≤ c → c ≤ maxR → memS A c = (memS l c != neg)
theorem ClsOk.same {A l : List Sp} (h1 : RiseS A 0) (h2 : Ok32 A) (h3 : ∀ c, memS A c = memS l c) : ClsOk A l false := ⟨h1, h2, fun c _ _ => by rw [h3]; simp⟩
theorem ClsOk.others {A l : List Sp} (h1 : RiseS A 0) (h2 : Ok32 A) (h3 : ∀ c, memS A c = memS l c) : ClsOk (otherS A 0) l true :=
  ⟨otherS_rise A 0 h1, otherS_ok A 0 (Int.le_refl _) h1 (fun s hs => (h2 s hs).2.2), fun c c0 c1 => by rw [otherS_mem A 0 h1 (fun s hs => (h2 s hs).2.2) c c0 c1, h3]; simp⟩
end Go.Proofs.YtmbkcmfcdjccoaaDoor

/- The reader of an expression: a class, walked. -/
namespace Go.Proofs.YtmbkcmfcdjccoaaDoor
open Go.RowKit Go.Maps

theorem RdS.grown {w W W' : World} {U : Nat} {s : ByteArray} {i g : Nat} {v : Value} {l : List Sp} (H : RdS w U s g W i) (hU : U < w.heap.size) (hr : SpR W w.heap.size v l) (hg : W.grownBy W' v.ownBlock) : RdS w U s g W' i :=
  ⟨(hg.block U H.rd.lt (fun hj => by have := (hr.lt _ hj.symm).1; omega)).trans H.rd, H.kept.grown hg (fun k hk hj => by have := (hr.lt k hj).1; omega)⟩
theorem RdS.belowB {w W W' : World} {U : Nat} {s : ByteArray} {i g : Nat} (H : RdS w U s g W i) (hU : U < w.heap.size) (hb : Below w.heap.size W W') : RdS w U s g W' i :=
  ⟨(hb.block U hU).trans H.rd, ⟨hb.os.trans H.kept.os, hb.tape.trans H.kept.tape, hb.output.trans H.kept.output, Nat.le_trans H.kept.size hb.size, fun k hk hn => (hb.block k hk).trans (H.kept.block k hk hn)⟩⟩
/-- Where the reader stands. -/
def rdJ (w : World) (U : Nat) : Nat := (intOf ((w.cell? ⟨U, 1, none⟩).getD (.int .i64 0))).toNat
theorem RdAt.j {w : World} {U : Nat} {s : ByteArray} {i g : Nat} (h : RdAt w U s i g) : rdJ w U = i := by
  unfold rdJ
  rw [h.c1]
  simp [intOf]
/-- What a class comes to. -/
def ClP (w : World) (U : Nat) (s : ByteArray) (g : Nat) (R : Rd (List Sp × Bool)) (e : Ending) (w' : World) : Prop := match R with
  | .no p => e = .returned (.tuple #[.slice none 0 0, .bool false]) ∧ RdS w U s g w' p
  | .yes (l, neg) p => ∃ a c A, e = .returned (.tuple #[.slice a A.length c, .bool true]) ∧ SpR w' w.heap.size (.slice a A.length c) A ∧ ClsOk A l neg ∧ RdS w U s g w' p
/-- The pieces under way. -/
structure ClS (w : World) (U : Nat) (s : ByteArray) (g : Nat) (W : World) (j : Nat) (ca : Option Addr) (cc : Nat) (acc : List Sp) : Prop where
  rs : RdS w U s g W j
  sp : SpR W w.heap.size (.slice ca acc.length cc) acc
  ok : Ok32 acc
  le : j ≤ s.size
  few : acc.length ≤ 5 * j

/-- What was read, with what its head said. -/
def withN (neg : Bool) : Rd (List Sp) → Rd (List Sp × Bool)
  | .no p => .no p
  | .yes l p => .yes (l, neg) p

set_option maxRecDepth 100000 in
set_option maxHeartbeats 4000000 in
theorem class_core (B U : Nat) (s : ByteArray) (i g : Nat) (neg : Bool) (w : World) (h : RdAt w U s i g) (hE : Env8 w B) (hB : B ≤ U) (hi : i ≤ s.size) (hs : s.size ≤ 10000) (hneg : seesB s i 94 = neg) :
    Calls Tryd.prog 54 #[.pointer (some ⟨U, 0, none⟩)] w fun e w' => ClP w U s g (withN neg (piecesR s (s.size + 1) (if neg = true then i + 1 else i) true [])) e w' := by
  have hU := h.lt
  have HU : Hid (U < w.heap.size) := hU
  have HS0 : Hid (RdS w U s g w i) := RdS.start h
  obtain ⟨i1, hi1⟩ : ∃ i1, i1 = (if neg = true then i + 1 else i) := ⟨_, rfl⟩
  have hi1s : i1 ≤ s.size := by
    cases neg
    · rw [hi1]; exact hi
    · have := seesB_lt hneg
      rw [hi1, if_pos rfl]; omega
  have HK : Hid (∀ W, RdS w U s g W i → Calls Tryd.prog 33 #[.pointer (some ⟨U, 0, none⟩), .int .u8 94] W fun e w' => e = .returned (.bool neg) ∧ RdS w U s g w' i1) := by
    cases neg
    · rw [hi1]; exact skip_no 94 hneg (by omega)
    · rw [hi1]; exact skip_yes 94 hneg (by omega)
  rw [← hi1]
  obtain ⟨R, hR⟩ : ∃ R, R = piecesR s (s.size + 1) i1 true [] := ⟨_, rfl⟩
  rw [← hR]
  have HR : Hid (piecesR s (s.size + 1) i1 true [] = R) := hR.symm
  have HSE : Hid (∀ W j, RdS w U s g W j → Calls Tryd.prog 44 #[.pointer (some ⟨U, 0, none⟩), .int .u8 93] W fun e w' => e = .returned (.bool (seesB s j 93)) ∧ ∃ q, w' = W.drewN q) := fun W j hW => sees_any U s j g 93 W hW.rd (by omega)
  have HPC : Hid (∀ W j fb, RdS w U s g W j → j ≤ s.size → Calls Tryd.prog 61 #[.pointer (some ⟨U, 0, none⟩), .bool fb] W fun e w' => PcP W U s g (pieceR s j fb) e w') := fun W j fb hW hj => piece_any B U s j g fb W hW.rd (hE.kept hW.kept hB (by omega)) hB hj (by omega)
  have HTD : Hid (∀ (W : World) (a : Option Addr) (c : Nat) (l : List Sp), w.heap.size ≤ W.heap.size → SpR W w.heap.size (.slice a l.length c) l → l ≠ [] → Ok32 l → l.length ≤ 100000 → Calls Tryd.prog 62 #[.slice a l.length c] W fun e w' => ∃ a' c' A, e = .returned (.slice a' A.length c') ∧ SpR w' w.heap.size (.slice a' A.length c') A ∧ Below w.heap.size W w' ∧ RiseS A 0 ∧ Ok32 A ∧ (∀ c, memS A c = memS l c) ∧ A.length ≤ 100000) := fun W a c l hW hr hn ho hl => (tidy_any _ l W w.heap.size hr hW hn ho hl).mono (by
    rintro e w' ⟨v', A, he, hsp, hb, h1, h2, h3, h4⟩
    obtain ⟨a', c', rfl⟩ := hsp.slice
    exact ⟨a', c', A, he, hsp.mono hW, hb, h1, h2, h3, by omega⟩)
  have HOT : Hid (∀ (W : World) (a : Option Addr) (c : Nat) (A : List Sp), w.heap.size ≤ W.heap.size → SpR W w.heap.size (.slice a A.length c) A → In32 A → A.length ≤ 100000 → Calls Tryd.prog 63 #[.slice a A.length c] W fun e w' => ∃ a' c', e = .returned (.slice a' (otherS A 0).length c') ∧ SpR w' w.heap.size (.slice a' (otherS A 0).length c') (otherS A 0) ∧ Below W.heap.size W w') := fun W a c A hW hr hin hl => (others_any _ A W (RowAt.of_row hr) hin hl).mono (by
    rintro e w' ⟨v', he, hsp, hb⟩
    obtain ⟨a', c', rfl⟩ := hsp.slice
    exact ⟨a', c', he, hsp.mono hW, hb⟩)
  clear h hE hB hneg hi1 hR
  go_enter Tryd.func54, Tryd.ntmps54
  go_wp2_with (go_at_call 33; refine (HK.out _ HS0.out).mono ?_; clear HK HS0; rintro e w1 ⟨rfl, hl⟩; have HS1 : Hid (RdS w U s g w1 i1) := hl; clear hl)
  go_loopw [5, 6] (fun cv fv wr => ∃ (n j : Nat) (acc : List Sp) (ca : Option Addr) (k cc : Nat) (fb : Bool), k = acc.length ∧ cv = .slice ca k cc ∧ fv = .bool fb ∧ s.size < j + n ∧ (fb = false → acc ≠ []) ∧ Hid (ClS w U s g wr j ca cc acc) ∧ Hid (piecesR s n j fb acc = R)) (fun _ _ wr => s.size + 1 - rdJ wr U)
  case atStart => exact ⟨s.size + 1, i1, [], none, 0, 0, true, rfl, rfl, rfl, by omega, (fun h => by cases h), ⟨HS1.out, SpR.nil _ _, (fun s hs => by cases hs), hi1s, Nat.zero_le _⟩, HR⟩
  case round =>
    clear HR HS1
    obtain ⟨n, j, acc, ca, k, cc, fb, rfl, rfl, rfl, hn, hfb, HC, HR⟩ := hrel
    have hjs := HC.out.le
    have HJ : Hid (rdJ wr U = j) := HC.out.rs.rd.j
    have hfew := HC.out.few
    obtain ⟨n, rfl⟩ : ∃ m, n = m + 1 := ⟨n - 1, by omega⟩
    have hUn : piecesR s (n + 1) j fb acc = (if fb = false ∧ seesB s j 93 = true then .yes acc (j + 1) else match pieceR s j fb with | .no p => .no p | .yes l p => piecesR s n p false (acc ++ l)) := by
      show (if fb = false ∧ seesB s j 93 = true then Rd.yes acc (j + 1) else _) = _
      split
      · rfl
      · cases pieceR s j fb <;> rfl
    rw [hUn] at HR
    clear hUn
    by_cases hend : fb = false ∧ seesB s j 93 = true
    · obtain ⟨rfl, h93⟩ := hend
      rw [if_pos ⟨rfl, h93⟩] at HR
      have hlt := seesB_lt h93
      have HS2 : Hid (RdS w U s g wr j ∧ SpR wr w.heap.size (.slice ca acc.length cc) acc) := ⟨HC.out.rs, HC.out.sp⟩
      have HSJ := HSE.out wr j HC.out.rs
      rw [h93] at HSJ
      have HNE : Hid (acc ≠ []) := hfb rfl
      have HOK : Hid (Ok32 acc ∧ acc.length ≤ 100000) := ⟨HC.out.ok, by omega⟩
      have HB1 : Hid (∀ W v, v = Value.int .i64 ((j + 1 : Nat) : Int) → RdS w U s g W j → SpR W w.heap.size (.slice ca acc.length cc) acc → RdS w U s g (W.setCell ⟨U, 1, none⟩ v) (j + 1) ∧ SpR (W.setCell ⟨U, 1, none⟩ v) w.heap.size (.slice ca acc.length cc) acc) := fun W v hv h1 h2 => ⟨h1.set1 (j + 1) hv, h2.kept (Kept.un _ U 1 _) HU.out⟩
      clear hfb HC HPC HSE HJ
      cases neg with
      | false =>
        go_wp2_with (first
          | (go_at_call 44; refine HSJ.mono ?_; clear HSJ; rintro e w2 ⟨rfl, q, hw⟩; have HS3 : Hid (RdS w U s g w2 j ∧ SpR w2 w.heap.size (.slice ca acc.length cc) acc) := (by rw [hw]; exact ⟨HS2.out.1.drewN q, row_below HS2.out.2 (below_drewN (Below.refl _ _) _)⟩); clear hw HS2; have HS2 := HS3; clear HS3; have c1 := HS2.out.1.rd.c1; have f1 := HS2.out.1.rd.f1)
          | (go_at_call 62; have HBB := HB1.out w2 (.int .i64 ((j + 1 : Nat) : Int)) rfl HS2.out.1 HS2.out.2; refine (HTD.out _ _ _ acc HBB.1.size HBB.2 HNE.out HOK.out.1 HOK.out.2).mono ?_; rintro e w3 ⟨a3, c3, A, rfl, hsp, hb, h1, h2, h3, h4⟩; have HF : Hid (SpR w3 w.heap.size (.slice a3 A.length c3) A ∧ ClsOk A acc false ∧ RdS w U s g w3 (j + 1)) := ⟨hsp, ClsOk.same h1 h2 h3, HBB.1.belowB HU.out hb⟩; clear hsp hb h1 h2 h3 HBB HTD))
        go_ret2
        rw [← HR.out]
        exact ⟨a3, c3, A, rfl, HF.out⟩
      | true =>
        go_wp2_with (first
          | (go_at_call 44; refine HSJ.mono ?_; clear HSJ; rintro e w2 ⟨rfl, q, hw⟩; have HS3 : Hid (RdS w U s g w2 j ∧ SpR w2 w.heap.size (.slice ca acc.length cc) acc) := (by rw [hw]; exact ⟨HS2.out.1.drewN q, row_below HS2.out.2 (below_drewN (Below.refl _ _) _)⟩); clear hw HS2; have HS2 := HS3; clear HS3; have c1 := HS2.out.1.rd.c1; have f1 := HS2.out.1.rd.f1)
          | (go_at_call 62; have HBB := HB1.out w2 (.int .i64 ((j + 1 : Nat) : Int)) rfl HS2.out.1 HS2.out.2; refine (HTD.out _ _ _ acc HBB.1.size HBB.2 HNE.out HOK.out.1 HOK.out.2).mono ?_; rintro e w3 ⟨a3, c3, A, rfl, hsp, hb, h1, h2, h3, h4⟩; have HF : Hid (SpR w3 w.heap.size (.slice a3 A.length c3) A ∧ In32 A ∧ ClsOk (otherS A 0) acc true ∧ RdS w U s g w3 (j + 1)) := ⟨hsp, h2.in32, ClsOk.others h1 h2 h3, HBB.1.belowB HU.out hb⟩; have HA4 : Hid (A.length ≤ 100000) := h4; clear hsp hb h1 h2 h3 h4 HBB HTD)
          | (go_at_call 63; refine (HOT.out _ _ _ A HF.out.2.2.2.size HF.out.1 HF.out.2.1 HA4.out).mono ?_; rintro e w4 ⟨a4, c4, rfl, hsp, hb⟩; have HG : Hid (SpR w4 w.heap.size (.slice a4 (otherS A 0).length c4) (otherS A 0) ∧ ClsOk (otherS A 0) acc true ∧ RdS w U s g w4 (j + 1)) := ⟨hsp, HF.out.2.2.1, HF.out.2.2.2.below hb⟩; clear hsp hb HF))
        go_ret2
        rw [← HR.out]
        exact ⟨a4, c4, _, rfl, HG.out⟩
    · rw [if_neg hend] at HR
      have hpo := pieceR_ok fb hjs
      cases hp : pieceR s j fb with
      | no p =>
        rw [hp] at HR
        have HS2 : Hid (RdS w U s g wr j ∧ SpR wr w.heap.size (.slice ca acc.length cc) acc) := ⟨HC.out.rs, HC.out.sp⟩
        have HSJ := HSE.out wr j HC.out.rs
        have HPP : Hid (∀ W, RdS w U s g W j → Calls Tryd.prog 61 #[.pointer (some ⟨U, 0, none⟩), .bool fb] W fun e w' => e = .returned (.tuple #[.slice none 0 0, .bool false]) ∧ RdS w U s g w' p) := fun W hW => by
          have h9 := HPC.out W j fb hW hjs
          rw [hp] at h9
          exact h9.mono (fun e w' h => ⟨h.1, hW.to h.2.rd h.2.kept⟩)
        clear HPC HTD HOT hp hpo
        cases fb with
        | true =>
          go_wp2_with (go_at_call 61; refine (HPP.out _ HS2.out.1).mono ?_; clear HPP; rintro e w5 ⟨rfl, hl⟩)
          go_ret2
          rw [← HR.out]
          exact ⟨rfl, hl⟩
        | false =>
          have h93 : seesB s j 93 = false := by simpa using fun h => hend ⟨rfl, h⟩
          rw [h93] at HSJ
          go_wp2_with (first
            | (go_at_call 44; refine HSJ.mono ?_; clear HSJ; rintro e w2 ⟨rfl, q, hw⟩; have HS3 : Hid (RdS w U s g w2 j ∧ SpR w2 w.heap.size (.slice ca acc.length cc) acc) := (by rw [hw]; exact ⟨HS2.out.1.drewN q, row_below HS2.out.2 (below_drewN (Below.refl _ _) _)⟩); clear hw HS2; have HS2 := HS3; clear HS3; have c1 := HS2.out.1.rd.c1; have f1 := HS2.out.1.rd.f1)
            | (go_at_call 61; refine (HPP.out _ HS2.out.1).mono ?_; clear HPP; rintro e w5 ⟨rfl, hl⟩))
          go_ret2
          rw [← HR.out]
          exact ⟨rfl, hl⟩
      | yes l p =>
        rw [hp] at HR hpo
        obtain ⟨o1, o2, o3, o4, o5⟩ := hpo
        have HS2 : Hid (RdS w U s g wr j ∧ SpR wr w.heap.size (.slice ca acc.length cc) acc) := ⟨HC.out.rs, HC.out.sp⟩
        have HSJ := HSE.out wr j HC.out.rs
        have HOK : Hid (Ok32 acc) := HC.out.ok
        have HPP : Hid (∀ W, RdS w U s g W j → SpR W w.heap.size (.slice ca acc.length cc) acc → Calls Tryd.prog 61 #[.pointer (some ⟨U, 0, none⟩), .bool fb] W fun e w' => ∃ a d, e = .returned (.tuple #[.slice a l.length d, .bool true]) ∧ RdS w U s g w' p ∧ SpR w' w.heap.size (.slice ca acc.length cc) acc ∧ RowAt w' (.slice a l.length d) 2 l.length (spC l)) := fun W hW hsp => by
          have h9 := HPC.out W j fb hW hjs
          rw [hp] at h9
          refine h9.mono ?_
          rintro e w' ⟨a, d, he, hr, hl⟩
          exact ⟨a, d, he, hW.to hl.rd hl.kept, hsp.kept hl.kept HU.out, RowAt.of_row hr⟩
        clear HPC HTD HOT hp HC HSE hfb
        cases fb with
        | true =>
          go_wp2_with (first
            | (go_at_call 61; refine (HPP.out _ HS2.out.1 HS2.out.2).mono ?_; clear HPP; rintro e w5 ⟨a5, d5, rfl, h1, h2, h3⟩; have HS5 : Hid (RdS w U s g w5 p ∧ SpR w5 w.heap.size (.slice ca acc.length cc) acc ∧ RowAt w5 (.slice a5 l.length d5) 2 l.length (spC l)) := ⟨h1, h2, h3⟩; clear h1 h2 h3)
            | (at_builtin; refine wpList_append_row appSp _ rfl _ _ rfl w.heap.size (.slice ca acc.length cc) acc.length (spC acc) rfl HS5.out.2.1 _ l.length (spC l) rfl HS5.out.2.2 (spC_one _) (by omega) HS5.out.1.size ?_; intro a6 c6 w6 hr6 hg6 hw6; have HR6 : Hid (SpR w6 w.heap.size (.slice a6 (acc.length + l.length) c6) (acc ++ l)) := (by show World.ownsRow _ _ _ _ _ _ _; rw [List.length_append, spC_append]; exact hr6); have HS6 : Hid (RdS w U s g w6 p) := HS5.out.1.grown HU.out HS5.out.2.1 hg6; clear hr6 hg6 hw6))
          go_roundw
          case rel => exact ⟨n, p, acc ++ l, a6, acc.length + l.length, c6, false, by rw [List.length_append], rfl, rfl, by omega, (fun _ h => o5 (List.append_eq_nil_iff.1 h).2), ⟨HS6.out, (by rw [List.length_append]; exact HR6.out), HOK.out.append o3, o2, (by rw [List.length_append]; omega)⟩, HR⟩
          case measure => rw [HJ.out, HS6.out.rd.j]; omega
        | false =>
          have h93 : seesB s j 93 = false := by simpa using fun h => hend ⟨rfl, h⟩
          rw [h93] at HSJ
          go_wp2_with (first
            | (go_at_call 44; refine HSJ.mono ?_; clear HSJ; rintro e w2 ⟨rfl, q, hw⟩; have HS3 : Hid (RdS w U s g w2 j ∧ SpR w2 w.heap.size (.slice ca acc.length cc) acc) := (by rw [hw]; exact ⟨HS2.out.1.drewN q, row_below HS2.out.2 (below_drewN (Below.refl _ _) _)⟩); clear hw HS2; have HS2 := HS3; clear HS3; have c1 := HS2.out.1.rd.c1; have f1 := HS2.out.1.rd.f1)
            | (go_at_call 61; refine (HPP.out _ HS2.out.1 HS2.out.2).mono ?_; clear HPP; rintro e w5 ⟨a5, d5, rfl, h1, h2, h3⟩; have HS5 : Hid (RdS w U s g w5 p ∧ SpR w5 w.heap.size (.slice ca acc.length cc) acc ∧ RowAt w5 (.slice a5 l.length d5) 2 l.length (spC l)) := ⟨h1, h2, h3⟩; clear h1 h2 h3)
            | (at_builtin; refine wpList_append_row appSp _ rfl _ _ rfl w.heap.size (.slice ca acc.length cc) acc.length (spC acc) rfl HS5.out.2.1 _ l.length (spC l) rfl HS5.out.2.2 (spC_one _) (by omega) HS5.out.1.size ?_; intro a6 c6 w6 hr6 hg6 hw6; have HR6 : Hid (SpR w6 w.heap.size (.slice a6 (acc.length + l.length) c6) (acc ++ l)) := (by show World.ownsRow _ _ _ _ _ _ _; rw [List.length_append, spC_append]; exact hr6); have HS6 : Hid (RdS w U s g w6 p) := HS5.out.1.grown HU.out HS5.out.2.1 hg6; clear hr6 hg6 hw6))
          go_roundw
          case rel => exact ⟨n, p, acc ++ l, a6, acc.length + l.length, c6, false, by rw [List.length_append], rfl, rfl, by omega, (fun _ h => o5 (List.append_eq_nil_iff.1 h).2), ⟨HS6.out, (by rw [List.length_append]; exact HR6.out), HOK.out.append o3, o2, (by rw [List.length_append]; omega)⟩, HR⟩
          case measure => rw [HJ.out, HS6.out.rd.j]; omega
/-- A class behind its opening bracket. -/
theorem class_any (B U : Nat) (s : ByteArray) (i g : Nat) (w : World) (h : RdAt w U s i g) (hE : Env8 w B) (hB : B ≤ U) (hi : i ≤ s.size) (hs : s.size ≤ 10000) :
    Calls Tryd.prog 54 #[.pointer (some ⟨U, 0, none⟩)] w fun e w' => ClP w U s g (classR s i) e w' := by
  have h1 : classR s i = withN (seesB s i 94) (piecesR s (s.size + 1) (if seesB s i 94 = true then i + 1 else i) true []) := by
    unfold classR withN
    cases seesB s i 94 <;> simp <;> split <;> simp_all
  rw [h1]
  exact class_core B U s i g _ w h hE hB hi hs rfl
end Go.Proofs.YtmbkcmfcdjccoaaDoor
