/- The steps of an expression: pure. -/
import Derived.Test.YtmbkcmfcdjccoaaDoorMP25
namespace Go.Proofs.YtmbkcmfcdjccoaaDoor
open Go.RowKit Go.Maps

/-- A step. -/
inductive Stp where
  | take (l : List Sp) (neg : Bool) : Stp
  | start : Stp
  | stop : Stp
  | note (k : Nat) : Stp
  | fork (a b : Nat) : Stp
  | jump (a : Nat) : Stp
  | yes : Stp
def forkS (lz : Bool) (a b : Nat) : Stp := if lz = true then .fork b a else .fork a b
/-- So many copies, one behind the other, from a place on. -/
def copiesS (f : Nat → List Stp) : Nat → Nat → List Stp
  | 0, _ => []
  | n + 1, p => f p ++ copiesS f n (p + (f p).length)
/-- Copies that may be left out: forks ahead of each. -/
def optsS (f : Nat → List Stp) (t : Nat → Stp) : Nat → Nat → List Stp
  | 0, _ => []
  | n + 1, p => t p :: (f (p + 1) ++ optsS f t n (p + 1 + (f (p + 1)).length))
def rawS (f : Nat → List Stp) (n p : Nat) : List Stp := optsS f (fun _ => .fork 0 0) n p
/-- Behind the copies that must be: the rest of a repeat. -/
def tailS (f : Nat → List Stp) (lo : Nat) (hi : Int) (lz : Bool) (q : Nat) : List Stp :=
  if hi = -1 then forkS lz (q + 1) (q + 2 + (f (q + 1)).length) :: (f (q + 1) ++ [.jump q])
  else optsS f (fun p => forkS lz (p + 1) (q + (rawS f (hi - lo).toNat q).length)) (hi - lo).toNat q
mutual
/-- The steps of a part, where it begins at a place. -/
def emitN : Nd → Nat → List Stp
  | .take l neg, _ => [.take l neg]
  | .start, _ => [.start]
  | .stop, _ => [.stop]
  | .row l, p => emitsN l p
  | .either a b, p => .fork (p + 1) (p + 2 + (emitN a (p + 1)).length) :: (emitN a (p + 1) ++ .jump (p + 2 + (emitN a (p + 1)).length + (emitN b (p + 2 + (emitN a (p + 1)).length)).length) :: emitN b (p + 2 + (emitN a (p + 1)).length))
  | .group n a, p => .note (2 * n) :: (emitN a (p + 1) ++ [.note (2 * n + 1)])
  | .plus a lz, p => emitN a p ++ [forkS lz p (p + (emitN a p).length + 1)]
  | .times a lo hi lz, p => copiesS (emitN a) lo p ++ tailS (emitN a) lo hi lz (p + (copiesS (emitN a) lo p).length)
def emitsN : List Nd → Nat → List Stp
  | [], _ => []
  | a :: t, p => emitN a p ++ emitsN t (p + (emitN a p).length)
end
theorem copiesS_len {f : Nat → List Stp} {z : Nat} (hf : ∀ p, (f p).length = z) : ∀ n p, (copiesS f n p).length = n * z
  | 0, p => by unfold copiesS; simp
  | n + 1, p => by
    unfold copiesS
    rw [List.length_append, hf, copiesS_len hf n, Nat.succ_mul]
    omega
theorem optsS_len {f : Nat → List Stp} {t : Nat → Stp} {z : Nat} (hf : ∀ p, (f p).length = z) : ∀ n p, (optsS f t n p).length = n * (z + 1)
  | 0, p => by unfold optsS; simp
  | n + 1, p => by
    unfold optsS
    rw [List.length_cons, List.length_append, hf, optsS_len hf n, Nat.succ_mul]
    omega
theorem copiesS_same (f : Nat → List Stp) : ∀ n p, (∀ p, f p = []) → copiesS f n p = []
  | 0, p, _ => rfl
  | n + 1, p, h => by
    unfold copiesS
    rw [h p, copiesS_same f n _ h]
    rfl
theorem sizesN_ge : ∀ (l : List Nd) (n : Int), WfsN l → n ≤ 2001 → n ≤ sizesN l n
  | [], n, _, _ => by unfold sizesN; exact Int.le_refl _
  | a :: t, n, h, hn => by
    unfold WfsN at h
    have h1 := wf_size a h.1
    unfold sizesN
    have := sizesN_ge t (capN (n + sizeN a)) h.2 (by unfold capN; omega)
    refine Int.le_trans ?_ this
    unfold capN
    omega
mutual
/-- So many steps as the size says. -/
theorem emit_len : ∀ (x : Nd), WfN x → sizeN x ≤ 2000 → ∀ p, ((emitN x p).length : Int) = sizeN x
  | .take l neg, _, _, p => by unfold emitN sizeN; rfl
  | .start, _, _, p => by unfold emitN sizeN; rfl
  | .stop, _, _, p => by unfold emitN sizeN; rfl
  | .row l, h, hz, p => by
    unfold WfN at h
    rw [sizeN] at hz ⊢
    rw [emitN]
    have := emits_len l h 0 (Int.le_refl _) hz p
    omega
  | .either a b, h, hz, p => by
    unfold WfN at h
    have h1 := wf_size a h.1
    have h2 := wf_size b h.2
    rw [sizeN_either] at hz ⊢
    unfold capN at hz ⊢
    have e1 := emit_len a h.1 (by omega)
    have e2 := emit_len b h.2 (by omega)
    rw [emitN]
    have e1 := e1 (p + 1)
    have e2 := e2 (p + 2 + (emitN a (p + 1)).length)
    simp only [List.length_cons, List.length_append]
    omega
  | .group n a, h, hz, p => by
    unfold WfN at h
    have h1 := wf_size a h
    rw [sizeN_group] at hz ⊢
    unfold capN at hz ⊢
    have e1 := emit_len a h (by omega) (p + 1)
    rw [emitN]
    simp only [List.length_cons, List.length_append, List.length_nil]
    omega
  | .plus a lz, h, hz, p => by
    unfold WfN at h
    have h1 := wf_size a h
    rw [sizeN_plus] at hz ⊢
    unfold capN at hz ⊢
    have e1 := emit_len a h (by omega) p
    rw [emitN]
    simp only [List.length_append, List.length_cons, List.length_nil]
    omega
  | .times a lo hi lz, h, hz, p => by
    unfold WfN at h
    obtain ⟨h0, k1, k2, k3, k4⟩ := h
    have h1 := wf_size a h0
    have ih := emit_len a h0
    obtain ⟨z, hzz⟩ : ∃ z : Nat, sizeN a = z := ⟨(sizeN a).toNat, by omega⟩
    rw [sizeN_times] at hz ⊢
    rw [emitN, List.length_append]
    rw [hzz] at hz ih ⊢
    by_cases hne : hi = -1
    · rw [if_pos hne] at hz ⊢
      unfold capN at hz ⊢
      have hm : (lo : Int) * z = ((lo * z : Nat) : Int) := by simp
      rw [hm] at hz ⊢
      have hf : ∀ p, (emitN a p).length = z := fun p => by have := ih (by omega) p; omega
      rw [copiesS_len hf]
      unfold tailS
      rw [if_pos hne]
      simp only [List.length_cons, List.length_append, List.length_nil, hf]
      omega
    · rw [if_neg hne] at hz ⊢
      unfold capN at hz ⊢
      obtain ⟨d, hd⟩ : ∃ d : Nat, hi - lo = d := ⟨(hi - lo).toNat, by omega⟩
      have hdt : (hi - lo).toNat = d := by omega
      have hm : (lo : Int) * z = ((lo * z : Nat) : Int) := by simp
      have hm2 : (hi - lo) * ((z : Int) + 1) = ((d * (z + 1) : Nat) : Int) := by rw [hd]; simp
      rw [hm, hm2] at hz ⊢
      unfold tailS
      rw [if_neg hne, hdt]
      by_cases hzero : lo = 0 ∧ d = 0
      · obtain ⟨rfl, rfl⟩ := hzero
        show (((copiesS (emitN a) 0 p).length + (optsS (emitN a) _ 0 _).length : Nat) : Int) = _
        unfold copiesS optsS
        simp
        omega
      · have hzl : z ≤ 2000 := by
          have q1 : z ≤ lo * z ∨ z ≤ d * (z + 1) := by
            rcases Nat.eq_zero_or_pos lo with h9 | h9
            · right
              have : 0 < d := by omega
              have := Nat.mul_le_mul_right (z + 1) this
              omega
            · left
              have := Nat.mul_le_mul_right z h9
              omega
          have q2 : 0 ≤ ((lo * z : Nat) : Int) := Int.natCast_nonneg _
          have q3 : 0 ≤ ((d * (z + 1) : Nat) : Int) := Int.natCast_nonneg _
          rcases q1 with q1 | q1 <;> omega
        have hf : ∀ p, (emitN a p).length = z := fun p => by have := ih (by omega) p; omega
        rw [copiesS_len hf, optsS_len hf]
        omega
theorem emits_len : ∀ (l : List Nd), WfsN l → ∀ n, 0 ≤ n → sizesN l n ≤ 2000 → ∀ p, ((emitsN l p).length : Int) + n = sizesN l n
  | [], _, n, _, _, p => by unfold emitsN sizesN; simp
  | a :: t, h, n, hn, hz, p => by
    unfold WfsN at h
    have h1 := wf_size a h.1
    rw [sizesN] at hz ⊢
    have hge := sizesN_ge t (capN (n + sizeN a)) h.2 (by unfold capN; omega)
    have hc : capN (n + sizeN a) = n + sizeN a := by unfold capN at hge hz ⊢; omega
    rw [hc] at hz hge ⊢
    have e1 := emit_len a h.1 (by omega) p
    have e2 := emits_len t h.2 (n + sizeN a) (by omega) hz (p + (emitN a p).length)
    rw [emitsN, List.length_append]
    omega
end
theorem emit_nil {x : Nd} (h : WfN x) (hz : sizeN x = 0) (p : Nat) : emitN x p = [] := by
  have := emit_len x h (by omega) p
  exact List.eq_nil_of_length_eq_zero (by omega)
/-- A step leads to a place up to this. -/
def TgtS (hi : Nat) : Stp → Prop
  | .fork a b => a ≤ hi ∧ b ≤ hi
  | .jump a => a ≤ hi
  | .yes => False
  | _ => True
theorem TgtS.mono {hi hi' : Nat} {t : Stp} (h : TgtS hi t) (h2 : hi ≤ hi') : TgtS hi' t := by
  cases t with
  | fork a b => obtain ⟨a1, a2⟩ := h; exact ⟨by omega, by omega⟩
  | jump a => exact Nat.le_trans h h2
  | take l neg => trivial
  | start => trivial
  | stop => trivial
  | note k => trivial
  | yes => exact h
theorem tgt_fork {hi a b : Nat} {lz : Bool} (h2 : a ≤ hi) (h4 : b ≤ hi) : TgtS hi (forkS lz a b) := by
  unfold forkS
  split
  · exact ⟨h4, h2⟩
  · exact ⟨h2, h4⟩
def AllS (hi : Nat) (l : List Stp) : Prop := ∀ t ∈ l, TgtS hi t
theorem AllS.mono {hi hi' : Nat} {l : List Stp} (h : AllS hi l) (h2 : hi ≤ hi') : AllS hi' l := fun t ht => (h t ht).mono h2
theorem AllS.app {hi : Nat} {l m : List Stp} (h1 : AllS hi l) (h2 : AllS hi m) : AllS hi (l ++ m) := fun t ht => (List.mem_append.1 ht).elim (h1 t) (h2 t)
theorem AllS.cons {hi : Nat} {t : Stp} {m : List Stp} (h1 : TgtS hi t) (h2 : AllS hi m) : AllS hi (t :: m) := fun x hx => by
  rcases List.mem_cons.1 hx with rfl | hx
  · exact h1
  · exact h2 x hx
theorem AllS.nil {hi : Nat} : AllS hi [] := fun x hx => by cases hx
theorem copiesS_all {f : Nat → List Stp} (hf : ∀ p, AllS (p + (f p).length) (f p)) : ∀ n p, AllS (p + (copiesS f n p).length) (copiesS f n p)
  | 0, p => AllS.nil
  | n + 1, p => by
    unfold copiesS
    rw [List.length_append]
    exact AllS.app ((hf p).mono (by omega)) ((copiesS_all hf n _).mono (by omega))
theorem optsS_all {f : Nat → List Stp} {t : Nat → Stp} (hf : ∀ p, AllS (p + (f p).length) (f p)) {E : Nat} : ∀ n p, (∀ q, q < p + (optsS f t n p).length → TgtS E (t q)) → p + (optsS f t n p).length ≤ E → AllS E (optsS f t n p)
  | 0, p, _, _ => AllS.nil
  | n + 1, p, ht, hE => by
    rw [optsS] at ht hE ⊢
    simp only [List.length_cons, List.length_append] at ht hE
    refine AllS.cons (ht p (by omega)) (AllS.app ((hf (p + 1)).mono (by omega)) ?_)
    exact optsS_all hf n (p + 1 + (f (p + 1)).length) (fun q hq => ht q (by omega)) (by omega)
theorem optsS_size {f : Nat → List Stp} {t u : Nat → Stp} : ∀ n p, (optsS f t n p).length = (optsS f u n p).length
  | 0, p => rfl
  | n + 1, p => by
    unfold optsS
    simp only [List.length_cons, List.length_append, optsS_size (t := t) (u := u) n]
mutual
theorem emit_all : ∀ (x : Nd) (p : Nat), AllS (p + (emitN x p).length) (emitN x p)
  | .take l neg, p => by unfold emitN; exact AllS.cons trivial AllS.nil
  | .start, p => by unfold emitN; exact AllS.cons trivial AllS.nil
  | .stop, p => by unfold emitN; exact AllS.cons trivial AllS.nil
  | .row l, p => by rw [emitN]; exact emits_all l p
  | .either a b, p => by
    have h1 := emit_all a (p + 1)
    have h2 := emit_all b (p + 2 + (emitN a (p + 1)).length)
    rw [emitN]
    simp only [List.length_cons, List.length_append]
    refine AllS.cons ⟨by omega, by omega⟩ (AllS.app (h1.mono (by omega)) (AllS.cons ?_ (h2.mono (by omega))))
    show _ ≤ _
    omega
  | .group n a, p => by
    have h1 := emit_all a (p + 1)
    rw [emitN]
    simp only [List.length_cons, List.length_append]
    exact AllS.cons trivial (AllS.app (h1.mono (by omega)) (AllS.cons trivial AllS.nil))
  | .plus a lz, p => by
    have h1 := emit_all a p
    rw [emitN]
    simp only [List.length_cons, List.length_append, List.length_nil]
    exact AllS.app (h1.mono (by omega)) (AllS.cons (tgt_fork (by omega) (by omega)) AllS.nil)
  | .times a lo hi lz, p => by
    have hf := emit_all a
    rw [emitN]
    simp only [List.length_append]
    refine AllS.app ((copiesS_all hf lo p).mono (by omega)) ?_
    obtain ⟨q, hq⟩ : ∃ q, q = p + (copiesS (emitN a) lo p).length := ⟨_, rfl⟩
    rw [← hq]
    unfold tailS
    split
    · simp only [List.length_cons, List.length_append, List.length_nil]
      refine AllS.cons (tgt_fork (by omega) (by omega)) (AllS.app ((hf (q + 1)).mono (by omega)) (AllS.cons ?_ AllS.nil))
      show _ ≤ _
      omega
    · have hsz := optsS_size (f := emitN a) (t := fun p => forkS lz (p + 1) (q + (rawS (emitN a) (hi - lo).toNat q).length)) (u := fun _ => .fork 0 0) (hi - lo).toNat q
      unfold rawS at hsz ⊢
      refine optsS_all hf _ _ (fun r hr => tgt_fork (by omega) (by omega)) (by omega)
theorem emits_all : ∀ (l : List Nd) (p : Nat), AllS (p + (emitsN l p).length) (emitsN l p)
  | [], p => by unfold emitsN; exact AllS.nil
  | a :: t, p => by
    have h1 := emit_all a p
    have h2 := emits_all t (p + (emitN a p).length)
    rw [emitsN, List.length_append]
    exact AllS.app (h1.mono (by omega)) (h2.mono (by omega))
end
mutual
/-- No group has a greater number. -/
def GrN (k : Nat) : Nd → Prop
  | .take _ _ => True
  | .start => True
  | .stop => True
  | .row l => GrsN k l
  | .either a b => GrN k a ∧ GrN k b
  | .group n a => 1 ≤ n ∧ n ≤ k ∧ GrN k a
  | .plus a _ => GrN k a
  | .times a _ _ _ => GrN k a
def GrsN (k : Nat) : List Nd → Prop
  | [] => True
  | a :: t => GrN k a ∧ GrsN k t
end
mutual
theorem GrN.mono {k k' : Nat} (hk : k ≤ k') : ∀ (x : Nd), GrN k x → GrN k' x
  | .take _ _, _ => by unfold GrN; trivial
  | .start, _ => by unfold GrN; trivial
  | .stop, _ => by unfold GrN; trivial
  | .row l, h => by unfold GrN at h ⊢; exact GrsN.mono hk l h
  | .either a b, h => by unfold GrN at h ⊢; exact ⟨GrN.mono hk a h.1, GrN.mono hk b h.2⟩
  | .group n a, h => by unfold GrN at h ⊢; exact ⟨h.1, by omega, GrN.mono hk a h.2.2⟩
  | .plus a _, h => by unfold GrN at h ⊢; exact GrN.mono hk a h
  | .times a _ _ _, h => by unfold GrN at h ⊢; exact GrN.mono hk a h
theorem GrsN.mono {k k' : Nat} (hk : k ≤ k') : ∀ (l : List Nd), GrsN k l → GrsN k' l
  | [], _ => by unfold GrsN; trivial
  | a :: t, h => by unfold GrsN at h ⊢; exact ⟨GrN.mono hk a h.1, GrsN.mono hk t h.2⟩
end
theorem grs_push {k : Nat} : ∀ (l : List Nd) (x : Nd), GrsN k l → GrN k x → GrsN k (l ++ [x])
  | [], x, _, hx => by
    show GrsN k [x]
    unfold GrsN GrsN
    exact ⟨hx, trivial⟩
  | a :: t, x, h, hx => by
    show GrsN k (a :: (t ++ [x]))
    unfold GrsN at h ⊢
    exact ⟨h.1, grs_push t x h.2 hx⟩
theorem repR_gr {s : ByteArray} {i k : Nat} (x : Nd) (h : GrN k x) : match repR s x i with | .no _ => True | .yes y _ => GrN k y := by
  cases h42 : seesB s i 42 with
  | true => rw [repR_star x h42]; unfold GrN; exact h
  | false =>
    cases h43 : seesB s i 43 with
    | true => rw [repR_plus x h42 h43]; unfold GrN; exact h
    | false =>
      cases h63 : seesB s i 63 with
      | true => rw [repR_quest x h42 h43 h63]; unfold GrN; exact h
      | false =>
        cases h123 : seesB s i 123 with
        | false => rw [repR_none x h42 h43 h63 h123]; exact h
        | true =>
          rw [repR_brace x h42 h43 h63 h123]
          cases hc : countR s (i + 1) with
          | no q => trivial
          | yes r q =>
            obtain ⟨lo, hi2⟩ := r
            show GrN k (.times x lo hi2 _)
            unfold GrN
            exact h
/-- The groups of what is read. -/
def PtG (g : Nat) : Pt Nd → Prop
  | .no _ => True
  | .yes x _ g2 => g ≤ g2 ∧ GrN g2 x
structure AllG (s : ByteArray) (n : Nat) : Prop where
  either : ∀ i g, PtG g (eitherR s n i g)
  row : ∀ i g acc, GrsN g acc → PtG g (rowR s n i g acc)
  part : ∀ i g, PtG g (partR s n i g)
  thing : ∀ i g, PtG g (thingR s n i g)
  bracket : ∀ i g, PtG g (bracketR s n i g)
theorem PtG.mono {g g' : Nat} {R : Pt Nd} (h : PtG g' R) (hg : g ≤ g') : PtG g R := by
  cases R with
  | no p => trivial
  | yes x p g2 => exact ⟨Nat.le_trans hg h.1, h.2⟩
theorem gr_take {k : Nat} {l : List Sp} {neg : Bool} : GrN k (.take l neg) := by unfold GrN; trivial
theorem allG (s : ByteArray) : ∀ n, AllG s n
  | 0 => by
    refine ⟨fun i g => ?_, fun i g acc _ => ?_, fun i g => ?_, fun i g => ?_, fun i g => ?_⟩
    · rw [eitherR]; trivial
    · rw [rowR]; trivial
    · rw [partR]; trivial
    · rw [thingR]; trivial
    · rw [bracketR]; trivial
  | n + 1 => by
    have ih := allG s n
    refine ⟨fun i g => ?_, fun i g acc ha => ?_, fun i g => ?_, fun i g => ?_, fun i g => ?_⟩
    · rw [either_one]
      have h1 := ih.row i g [] (by unfold GrsN; trivial)
      cases hr : rowR s n i g [] with
      | no p => trivial
      | yes a p g2 =>
        rw [hr] at h1
        dsimp only
        split
        · exact h1
        · have h2 := ih.either (p + 1) g2
          cases hq : eitherR s n (p + 1) g2 with
          | no q => trivial
          | yes b q g3 =>
            rw [hq] at h2
            refine ⟨Nat.le_trans h1.1 h2.1, ?_⟩
            unfold GrN
            exact ⟨GrN.mono h2.1 a h1.2, h2.2⟩
    · rw [row_one]
      split
      · refine ⟨Nat.le_refl _, ?_⟩
        unfold GrN
        exact ha
      · have h1 := ih.part i g
        cases hr : partR s n i g with
        | no p => trivial
        | yes a p g2 =>
          rw [hr] at h1
          exact (ih.row p g2 (acc ++ [a]) (grs_push acc a (GrsN.mono h1.1 acc ha) h1.2)).mono h1.1
    · rw [part_one]
      split
      · exact ⟨Nat.le_refl _, by unfold GrN; trivial⟩
      · split
        · exact ⟨Nat.le_refl _, by unfold GrN; trivial⟩
        · have h1 := ih.thing i g
          cases hr : thingR s n i g with
          | no p => trivial
          | yes x p g2 =>
            rw [hr] at h1
            have h2 := repR_gr (s := s) (i := p) x h1.2
            dsimp only
            cases hq : repR s x p with
            | no q => trivial
            | yes y q => rw [hq] at h2; exact ⟨h1.1, h2⟩
    · rw [thing_one]
      split
      · exact ih.bracket (i + 1) g
      · split
        · cases hq : classR s (i + 1) with
          | no q => trivial
          | yes r q => exact ⟨Nat.le_refl _, gr_take⟩
        · split
          · exact ⟨Nat.le_refl _, gr_take⟩
          · split
            · cases hq : escR s (i + 1) with
              | no q => trivial
              | yes r q => exact ⟨Nat.le_refl _, gr_take⟩
            · split
              · trivial
              · exact ⟨Nat.le_refl _, gr_take⟩
    · rw [bracket_one]
      split
      · split
        · have h1 := ih.either (i + 2) g
          cases hr : eitherR s n (i + 2) g with
          | no p => trivial
          | yes x p g2 =>
            rw [hr] at h1
            dsimp only
            split
            · exact h1
            · trivial
        · trivial
      · have h1 := ih.either i (g + 1)
        cases hr : eitherR s n i (g + 1) with
        | no p => trivial
        | yes x p g2 =>
          rw [hr] at h1
          dsimp only
          split
          · refine ⟨by have := h1.1; omega, ?_⟩
            unfold GrN
            exact ⟨by omega, h1.1, h1.2⟩
          · trivial
end Go.Proofs.YtmbkcmfcdjccoaaDoor
