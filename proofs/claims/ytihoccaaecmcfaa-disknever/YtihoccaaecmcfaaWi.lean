/- What was synced, with its directory, is there behind any crash: the disk's own part. -/
import Derived.Test.YtihoccaaecmcfaaWh
namespace Go.Proofs.Ytihoccaaecmcfaa
open Go.RowKit Go.Maps Go.Sort
open Go.WideMaps Go.WideElems

def nmF : ByteArray := ⟨#[102]⟩
def nmG : ByteArray := ⟨#[103]⟩
def mF (f : Nat) : DataW Unit := .map [(.string [102], .lit (.int .i64 f))]
def mFG (f g : Nat) : DataW Unit := .map [(.string [102], .lit (.int .i64 f)), (.string [103], .lit (.int .i64 g))]
def kS (B : Nat) (pv : Value) (used ops : Int) (n : Nat) (N D : DataW Unit) (pend : List (ByteArray × ByteArray × Option Addr)) : St := ⟨4000, used, ops, -1, B, B + 1, B + 2, pv, n, N, D, .map [], pend⟩

theorem rnF : rn nmF = true := by decide
theorem rnG : rn nmG = true := by decide
theorem szF : nmF.size ≤ maxLen := by decide
theorem okF (f : Nat) : OkCh (ByteArray.empty, nmF, some ⟨f, 0, none⟩) := ⟨by show ByteArray.empty.size ≤ 1000000; decide, by show nmF.size ≤ 1000000; decide, rfl⟩
theorem okG (f : Nat) : OkCh (ByteArray.empty, nmG, some ⟨f, 0, none⟩) := ⟨by show ByteArray.empty.size ≤ 1000000; decide, by show nmG.size ≤ 1000000; decide, rfl⟩

theorem k_create (w0 w : World) (hb : Below w0.heap.size w0 w) (B : Nat) (hB : w0.heap.size ≤ B) (hI : IsDisk w (B + 3) (newSt 4000 B)) :
    Calls Try.prog 14 #[.pointer (some ⟨B + 3, 0, none⟩), .string nmF] w fun e w' => e = .returned (.int .i64 0) ∧ ∃ f pv, Wk w0 w' (B + 3) f (kS B pv 0 1 1 (mF f) (.map []) [(ByteArray.empty, nmF, some ⟨f, 0, none⟩)]) ⟨.slice none 0 0, [], 0⟩ := by
  refine (create_new hI (by show (0 : Int) < 1000000000; omega) nmF rfl (by show 0 < 1000000000; omega) (by show 0 < 1000000000; omega) rnF (by decide) rfl).mono fun e w' ⟨he, f, pv, hf, hI', hfa, hpv, hk⟩ => ⟨he, f, pv, ?_⟩
  have lo0 : ∀ k, (newSt 4000 B).own (B + 3) k → w0.heap.size ≤ k := fun k hk' => by
    rcases hk' with h | h | h | h | h
    · omega
    · exact h ▸ hB
    · exact h ▸ (show w0.heap.size ≤ B + 1 by omega)
    · exact h ▸ (show w0.heap.size ≤ B + 2 by omega)
    · cases h
  have hbs := hb.size
  refine ⟨hI', ⟨hfa, World.ownsRow_nil _ _ _ _⟩, fun k h => (by cases h), fun k hk' => ?_, by omega, fun k h => (by cases h), hb.trans (hk.toBelow hbs lo0)⟩
  rcases hk' with h | h | h | h | h
  · omega
  · exact h ▸ hB
  · exact h ▸ (show w0.heap.size ≤ B + 1 by omega)
  · exact h ▸ (show w0.heap.size ≤ B + 2 by omega)
  · have h' : pv.ownBlock = some k := h
    rcases hpv with e | ⟨g, e, hg⟩
    · rw [h'] at e
      cases e
    · rw [h'] at e
      cases e
      omega

theorem k_append1 (w0 w : World) (B f : Nat) (pv : Value) (h : Wk w0 w (B + 3) f (kS B pv 0 1 1 (mF f) (.map []) [(ByteArray.empty, nmF, some ⟨f, 0, none⟩)]) ⟨.slice none 0 0, [], 0⟩)
    (av : Value) (a : List UInt8) (ha : BytesAt w av a) (hlow : ∀ b, av.ownBlock = some b → a ≠ [] → b < w0.heap.size) (hl : a.length ≤ 1000) :
    Calls Try.prog 15 #[.pointer (some ⟨B + 3, 0, none⟩), .string nmF, av] w fun e w' => e = .returned (.int .i64 0) ∧ ∃ v, Wk w0 w' (B + 3) f (kS B pv a.length 2 1 (mF f) (.map []) [(ByteArray.empty, nmF, some ⟨f, 0, none⟩)]) ⟨v, a, 0⟩ := by
  refine (wkg_append h (by show (1 : Int) < 1000000000; omega) rfl nmF rnF szF rfl av a ha hlow (by simp; omega) (by show (0 : Int) ≤ 4000; omega) (by show (4000 : Int) ≤ 1000000000000; omega) (by show (0 : Int) ≤ 0; omega) (by show (0 : Int) ≤ 1000000000000; omega) (Or.inl (by show (a.length : Int) ≤ 4000 - 0; omega))).mono fun e w' ⟨he, v, hw⟩ => ⟨he, v, ?_⟩
  have e1 : ({ (kS B pv 0 1 1 (mF f) (.map []) [(ByteArray.empty, nmF, some ⟨f, 0, none⟩)]).begun with used := (kS B pv 0 1 1 (mF f) (.map []) [(ByteArray.empty, nmF, some ⟨f, 0, none⟩)]).used + a.length } : St) = kS B pv a.length 2 1 (mF f) (.map []) [(ByteArray.empty, nmF, some ⟨f, 0, none⟩)] := by
    show kS B pv (0 + (a.length : Int)) 2 1 (mF f) (.map []) [(ByteArray.empty, nmF, some ⟨f, 0, none⟩)] = _
    rw [Int.zero_add]
  rw [e1] at hw
  exact hw

theorem k_sync (w0 w : World) (B f : Nat) (pv v : Value) (a : List UInt8) (u : Int) (h : Wk w0 w (B + 3) f (kS B pv u 2 1 (mF f) (.map []) [(ByteArray.empty, nmF, some ⟨f, 0, none⟩)]) ⟨v, a, 0⟩) :
    Calls Try.prog 16 #[.pointer (some ⟨B + 3, 0, none⟩), .string nmF] w fun e w' => e = .returned (.int .i64 0) ∧ Wk w0 w' (B + 3) f (kS B pv u 3 1 (mF f) (.map []) [(ByteArray.empty, nmF, some ⟨f, 0, none⟩)]) ⟨v, a, a.length⟩ :=
  wkg_sync h (by show (2 : Int) < 1000000000; omega) rfl nmF rnF szF rfl

theorem k_syncDir (w0 w : World) (B f : Nat) (pv v : Value) (a : List UInt8) (u : Int) (h : Wk w0 w (B + 3) f (kS B pv u 3 1 (mF f) (.map []) [(ByteArray.empty, nmF, some ⟨f, 0, none⟩)]) ⟨v, a, a.length⟩) :
    Calls Try.prog 17 #[.pointer (some ⟨B + 3, 0, none⟩)] w fun e w' => e = .returned (.int .i64 0) ∧ Wk w0 w' (B + 3) f (kS B (.slice none 0 0) u 4 2 (mF f) (mF f) []) ⟨v, a, a.length⟩ := by
  refine (wkg_syncDir h (by show (3 : Int) < 1000000000; omega) rfl (by show 1 + 1 < 1000000000; omega) (fun c hc => ?_)).mono fun e w' ⟨he, hw⟩ => ⟨he, ?_⟩
  · have : c = (ByteArray.empty, nmF, some ⟨f, 0, none⟩) := by simpa [kS] using hc
    exact this ▸ okF f
  · have eD : foldD (.map []) [(ByteArray.empty, nmF, some ⟨f, 0, none⟩)] = mF f := by
      simp [foldD]
      rw [doD_new rnF]
      rfl
    have hw' : Wk w0 w' (B + 3) f (kS B (.slice none 0 0) u 4 2 (mF f) (foldD (.map []) [(ByteArray.empty, nmF, some ⟨f, 0, none⟩)]) []) ⟨v, a, a.length⟩ := hw
    rw [eD] at hw'
    exact hw'

theorem k_append2 (w0 w : World) (B f : Nat) (v : Value) (a : List UInt8) (h : Wk w0 w (B + 3) f (kS B (.slice none 0 0) a.length 4 2 (mF f) (mF f) []) ⟨v, a, a.length⟩)
    (bv : Value) (b : List UInt8) (hb : BytesAt w bv b) (hlow : ∀ k, bv.ownBlock = some k → b ≠ [] → k < w0.heap.size) (ha : a.length ≤ 1000) (hl : b.length ≤ 1000) :
    Calls Try.prog 15 #[.pointer (some ⟨B + 3, 0, none⟩), .string nmF, bv] w fun e w' => e = .returned (.int .i64 0) ∧ ∃ v', Wk w0 w' (B + 3) f (kS B (.slice none 0 0) (a.length + b.length) 5 2 (mF f) (mF f) []) ⟨v', a ++ b, a.length⟩ :=
  wkg_append h (by show (4 : Int) < 1000000000; omega) rfl nmF rnF szF rfl bv b hb hlow (by show a.length + b.length ≤ 1000000000; omega) (by show (0 : Int) ≤ 4000; omega) (by show (4000 : Int) ≤ 1000000000000; omega) (by show (0 : Int) ≤ (a.length : Int); omega) (by show (a.length : Int) ≤ 1000000000000; omega) (Or.inl (by show (b.length : Int) ≤ 4000 - (a.length : Int); omega))

theorem k_create2 (w0 w : World) (B f : Nat) (x : FileV) (u : Int) (h : Wk w0 w (B + 3) f (kS B (.slice none 0 0) u 5 2 (mF f) (mF f) []) x) :
    Calls Try.prog 14 #[.pointer (some ⟨B + 3, 0, none⟩), .string nmG] w fun e w' => e = .returned (.int .i64 0) ∧ ∃ g pv, g ≠ f ∧ Wk w0 w' (B + 3) f (kS B pv u 6 3 (mFG f g) (mF f) [(ByteArray.empty, nmG, some ⟨g, 0, none⟩)]) x ∧ FileAt w' g (.slice none 0 0) [] 0 ∧ w0.heap.size ≤ g :=
  wkg_create h (by show (5 : Int) < 1000000000; omega) rfl nmG (by show 2 < 1000000000; omega) (by show 0 < 1000000000; omega) rnG (by decide) rfl

/-- A crash leaves of each file a beginning, its durable bytes at least. -/
theorem crashTo_keeps (D : DataW Unit) (cs : List Int) (ts : List (List UInt8)) (fs : Nat → FileV) (f : Nat) (h : (fs f).dur ≤ (fs f).bs.length) : ∀ k, ∃ m, (fs f).dur ≤ m ∧ m ≤ (fs f).bs.length ∧ (crashTo D cs ts fs k f).bs = (fs f).bs.take m ∧ (fs f).dur ≤ (crashTo D cs ts fs k f).dur ∧ (crashTo D cs ts fs k f).dur ≤ m
  | 0 => ⟨(fs f).bs.length, h, Nat.le_refl _, by simp [crashTo], Nat.le_refl _, h⟩
  | k + 1 => by
    obtain ⟨m, h1, h2, h3, h4, h5⟩ := crashTo_keeps D cs ts fs f h k
    simp only [crashTo]
    split
    · have hc := cutN_le cs (k + 1) ((crashTo D cs ts fs k f).bs.length - (crashTo D cs ts fs k f).dur)
      have hl : (crashTo D cs ts fs k f).bs.length = m := by rw [h3, List.length_take]; omega
      refine ⟨(crashTo D cs ts fs k f).dur + cutN cs (k + 1) ((crashTo D cs ts fs k f).bs.length - (crashTo D cs ts fs k f).dur), by omega, by omega, ?_, ?_, ?_⟩
      · simp only [FileV.crash, FileV.cut]
        generalize cutN cs (k + 1) ((crashTo D cs ts fs k f).bs.length - (crashTo D cs ts fs k f).dur) = q at *
        rw [h3, List.take_take]
        congr 1
        omega
      · simp only [FileV.crash, FileV.cut]; omega
      · simp only [FileV.crash, FileV.cut]; omega
    · exact ⟨m, h1, h2, h3, h4, h5⟩

def kFs (f : Nat) (x : FileV) : Nat → FileV := fun i => if i = f then x else ⟨.slice none 0 0, [], 0⟩
theorem kFs_pos {f i : Nat} {x : FileV} (e : i = f) : kFs f x i = x := if_pos e
theorem kFs_neg {f i : Nat} {x : FileV} (e : ¬ i = f) : kFs f x i = ⟨.slice none 0 0, [], 0⟩ := if_neg e

theorem k_crash (w0 w : World) (B f g : Nat) (pv v : Value) (a b : List UInt8) (u : Int) (hgf : g ≠ f) (h : Wk w0 w (B + 3) f (kS B pv u 6 3 (mFG f g) (mF f) [(ByteArray.empty, nmG, some ⟨g, 0, none⟩)]) ⟨v, a ++ b, a.length⟩) (hg : FileAt w g (.slice none 0 0) [] 0) (hgl : w0.heap.size ≤ g)
    (hl : (a ++ b).length ≤ 2000) (cv : Value) (cs : List Int) (hc : CutsAt w cv cs) (hcl : ∀ k o l c, cv = .slice (some ⟨k, o, none⟩) l c → cs ≠ [] → k < w0.heap.size) :
    Calls Try.prog 18 #[.pointer (some ⟨B + 3, 0, none⟩), cv] w fun e w' => e = .returned (.tuple #[]) ∧ ∃ s' v' m dur, IsDisk w' (B + 3) s' ∧ s'.N.atKey (.string nmF.data.toList) .nil = .lit (.int .i64 f) ∧ FileAt w' f v' ((a ++ b).take m) dur ∧ a.length ≤ m ∧ m ≤ (a ++ b).length ∧ Below w0.heap.size w0 w' := by
  have hF : Files w (B + 3) (kS B pv u 6 3 (mFG f g) (mF f) [(ByteArray.empty, nmG, some ⟨g, 0, none⟩)]) [f, g] (kFs f ⟨v, a ++ b, a.length⟩) := by
    refine ⟨fun i hi => ?_, fun i hi => ?_, fun i hi j hj hne k hk => ?_, fun i hi k hk => ?_⟩
    · by_cases e : i = f
      · subst e; rw [kFs_pos rfl]; exact h.file
      · have : i = g := by simpa [e] using hi
        subst this; rw [kFs_neg e]; exact hg
    · by_cases e : i = f
      · rw [kFs_pos e]; simp
      · rw [kFs_neg e]; exact Nat.le_refl _
    · by_cases e : i = f
      · have e2 : ¬ j = f := fun e' => hne (e.trans e'.symm)
        rw [kFs_neg e2]
        simp [Value.ownBlock]
      · rw [kFs_neg e] at hk
        cases hk
    · by_cases e : i = f
      · rw [kFs_pos e] at hk
        exact h.row k hk
      · rw [kFs_neg e] at hk
        cases hk
  have hc0 := cutN_le cs 0 1
  have hD : ∀ c0, c0 ≤ 1 → foldD (mF f) ([(ByteArray.empty, nmG, some (⟨g, 0, none⟩ : Addr))].take c0) = mF f ∨ foldD (mF f) ([(ByteArray.empty, nmG, some (⟨g, 0, none⟩ : Addr))].take c0) = mFG f g := fun c0 hc => by
    rcases Nat.le_one_iff_eq_zero_or_eq_one.1 hc with rfl | rfl
    · exact Or.inl rfl
    · refine Or.inr ?_
      simp [foldD]
      rw [doD_new rnG]
      rfl
  have hDc := hD _ hc0
  refine (crash_any h.disk hF cv cs hc (fun k o l c e hne ho => ?_) (by show 3 + 1 < 1000000000; omega) (fun c hc => ?_) (cutN cs 0 1) rfl (fun x hx => ?_) (fun i hi => ?_) _ rfl).mono fun e w' ⟨he, nb, hnb, hI, hFn, hk⟩ => ?_
  · have hlt := hcl k o l c e hne
    rcases ho with ho | ho
    · have := h.lo k ho; omega
    · have : k = f ∨ k = g := by simpa using ho
      have := h.lof
      omega
  · have : c = (ByteArray.empty, nmG, some ⟨g, 0, none⟩) := by simpa [kS] using hc
    exact this ▸ okG g
  · have hx' : x ∈ strKeys (foldD (mF f) ([(ByteArray.empty, nmG, some (⟨g, 0, none⟩ : Addr))].take (cutN cs 0 1))) := hx
    show ∃ i ∈ [f, g], (foldD (mF f) ([(ByteArray.empty, nmG, some (⟨g, 0, none⟩ : Addr))].take (cutN cs 0 1))).atKey (.string x) .nil = .lit (.int .i64 i)
    rcases hDc with e | e
    · rw [e] at hx' ⊢
      have : x = [102] := by simpa [mF, strKeys, strOf] using hx'
      subst this
      exact ⟨f, by simp, rfl⟩
    · rw [e] at hx' ⊢
      have : x = [102] ∨ x = [103] := by simpa [mFG, strKeys, strOf] using hx'
      rcases this with rfl | rfl
      · exact ⟨f, by simp, rfl⟩
      · exact ⟨g, by simp, rfl⟩
  · by_cases e : i = f
    · rw [kFs_pos e]; show (a ++ b).length ≤ _; omega
    · rw [kFs_neg e]; simp
  · have hfl : kFs f ⟨v, a ++ b, a.length⟩ f = ⟨v, a ++ b, a.length⟩ := kFs_pos rfl
    have hat := hFn.at_ f (by simp)
    obtain ⟨m, h1, h2, h3, _, _⟩ := crashTo_keeps (foldD (mF f) ([(ByteArray.empty, nmG, some (⟨g, 0, none⟩ : Addr))].take (cutN cs 0 1))) cs (risen (foldD (mF f) ([(ByteArray.empty, nmG, some (⟨g, 0, none⟩ : Addr))].take (cutN cs 0 1))) []) (kFs f ⟨v, a ++ b, a.length⟩) f (by rw [hfl]; simp) (risen (foldD (mF f) ([(ByteArray.empty, nmG, some (⟨g, 0, none⟩ : Addr))].take (cutN cs 0 1))) []).length
    rw [hfl] at h1 h2 h3
    refine ⟨he, _, _, m, _, hI, ?_, ⟨hat.at_, ?_⟩, h1, h2, h.bel.trans (hk.toBelow h.bel.size (fun i e => ?_))⟩
    · show (foldD (mF f) ([(ByteArray.empty, nmG, some (⟨g, 0, none⟩ : Addr))].take (cutN cs 0 1))).atKey (.string nmF.data.toList) .nil = .lit (.int .i64 f)
      rcases hDc with e | e
      · rw [e]; rfl
      · rw [e]; rfl
    · have hr := hat.row
      rw [← h3]
      exact hr
    · rcases e with e | e
      · exact h.lo i e
      · have : i = f ∨ i = g := by simpa using e
        have := h.lof
        omega

end Go.Proofs.Ytihoccaaecmcfaa
