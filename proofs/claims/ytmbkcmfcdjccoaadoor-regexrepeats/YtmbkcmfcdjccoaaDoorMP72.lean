/- Running a program finds yes just where it is met: pure. -/
import Derived.Test.YtmbkcmfcdjccoaaDoorMP70
namespace Go.Proofs.YtmbkcmfcdjccoaaDoor
open Go.RowKit Go.Maps

/-- Where the ways stand that are under way at a place. -/
def pendL (c : Option Th) (lat : List Th) : List Nat := (match c with | none => [] | some t => [t.1]) ++ lat.map Prod.fst
/-- What a step that was met leads to is met. -/
def CloP (P : List Stp) (E a : Nat) (V W : Nat → Prop) (F : Prop) (i : Nat) : Prop := match P[i]? with
  | some (.take _ _) => W i
  | some .start => a = 0 → V (i + 1)
  | some .stop => ¬ a < E → V (i + 1)
  | some (.note _) => V (i + 1)
  | some (.fork p q) => V p ∧ V q
  | some (.jump p) => V p
  | some .yes => ¬ a < E → F
  | none => False
theorem CloP.mono {P : List Stp} {E a : Nat} {V V' W W' : Nat → Prop} {F F' : Prop} {i : Nat} (h : CloP P E a V W F i) (hV : ∀ j, V j → V' j) (hW : ∀ j, W j → W' j) (hF : F → F') : CloP P E a V' W' F' i := by
  unfold CloP at h ⊢
  cases hp : P[i]? with
  | none => rw [hp] at h; exact h
  | some m =>
    rw [hp] at h
    cases m with
    | take l neg => exact hW _ h
    | start => exact fun e => hV _ (h e)
    | stop => exact fun e => hV _ (h e)
    | note k => exact hV _ h
    | fork p q => exact ⟨hV _ h.1, hV _ h.2⟩
    | jump p => exact hV _ h
    | yes => exact fun e => hF (h e)
/-- A step has been met at a place. -/
def MetS (met : List Nat) (a i : Nat) : Prop := met[i]? = some (a + 1)
/-- The ways at a place, whole but for those that are under way. -/
structure FolI (P : List Stp) (E a : Nat) (G : Nat → Prop) (A : Prop) (c : Option Th) (s : FS) : Prop where
  len : s.met.length = P.length
  low : ∀ (i m : Nat), s.met[i]? = some m → m ≤ a + 1
  pend : ∀ t ∈ pendL c s.lat, t < P.length ∧ G t
  clo : ∀ i, MetS s.met a i → s.fnd.isSome = true ∨ CloP P E a (fun j => MetS s.met a j ∨ j ∈ pendL c s.lat) (fun j => j ∈ s.wait.map Prod.fst) (s.fnd.isSome = true) i
  wt : ∀ t ∈ s.wait, G t.1 ∧ t.1 < P.length
  fg : s.fnd.isSome = true → A
/-- What comes of them. -/
structure FolE (P : List Stp) (E a : Nat) (G : Nat → Prop) (A : Prop) (c : Option Th) (s R : FS) : Prop where
  len : R.met.length = P.length
  low : ∀ (i m : Nat), R.met[i]? = some m → m ≤ a + 1
  wt : ∀ t ∈ R.wait, G t.1 ∧ t.1 < P.length
  fg : R.fnd.isSome = true → A
  done : R.fnd.isSome = true ∨ (∀ i, MetS R.met a i → CloP P E a (MetS R.met a) (fun j => j ∈ R.wait.map Prod.fst) (R.fnd.isSome = true) i) ∧ ∀ t ∈ pendL c s.lat, MetS R.met a t
  mono : ∀ i, MetS s.met a i → MetS R.met a i
  fmono : s.fnd.isSome = true → R.fnd.isSome = true
  wmono : ∀ t ∈ s.wait, t ∈ R.wait
section
variable {P : List Stp} {E a : Nat} {G : Nat → Prop} {A : Prop}
theorem met_set {met : List Nat} {i : Nat} (h : i < met.length) (j : Nat) : MetS (met.set i (a + 1)) a j ↔ MetS met a j ∨ j = i := by
  unfold MetS
  by_cases e : i = j
  · subst e
    rw [List.getElem?_set_self h]
    exact ⟨fun _ => Or.inr rfl, fun _ => rfl⟩
  · rw [List.getElem?_set_ne e]
    exact ⟨Or.inl, fun h => h.elim id (fun h => absurd h.symm e)⟩
/-- One step that had not been met. -/
theorem FolI.step {t : Th} {s : FS} (h : FolI P E a G A (some t) s) (c' : Option Th) (lat' wait' : List Th) (fnd' : Option (List (Nat × Nat)))
    (hlat : ∀ i ∈ s.lat.map Prod.fst, i ∈ pendL c' lat') (hpend : ∀ i ∈ pendL c' lat', i < P.length ∧ G i) (hw : ∀ i ∈ s.wait, i ∈ wait') (hwg : ∀ i ∈ wait', G i.1 ∧ i.1 < P.length) (hf : s.fnd.isSome = true → fnd'.isSome = true) (hfg : fnd'.isSome = true → A)
    (hc : CloP P E a (fun j => j ∈ pendL c' lat') (fun j => j ∈ wait'.map Prod.fst) (fnd'.isSome = true) t.1) : FolI P E a G A c' ⟨s.met.set t.1 (a + 1), lat', wait', fnd'⟩ := by
  have hlt : t.1 < s.met.length := by
    rw [h.len]
    exact (h.pend t.1 (by simp [pendL])).1
  have hms := met_set (a := a) hlt
  refine ⟨by simpa using h.len, fun i m hm => ?_, hpend, fun i hi => ?_, hwg, hfg⟩
  · by_cases e : t.1 = i
    · rw [← e, List.getElem?_set_self hlt] at hm
      injection hm with hm
      omega
    · rw [List.getElem?_set_ne e] at hm
      exact h.low i m hm
  · have hW : ∀ j, j ∈ s.wait.map Prod.fst → j ∈ wait'.map Prod.fst := fun j hj => by
      obtain ⟨y, hy, rfl⟩ := List.mem_map.1 hj
      exact List.mem_map.2 ⟨y, hw y hy, rfl⟩
    rcases (hms i).1 hi with h1 | rfl
    · refine (h.clo i h1).imp hf fun h9 => h9.mono (fun j hj => ?_) hW hf
      rcases hj with hj | hj
      · exact Or.inl ((hms j).2 (Or.inl hj))
      · have hj : j ∈ t.1 :: s.lat.map Prod.fst := hj
        rcases List.mem_cons.1 hj with rfl | hj
        · exact Or.inl ((hms _).2 (Or.inr rfl))
        · exact Or.inr (hlat j hj)
    · exact Or.inr (hc.mono (fun j hj => Or.inr hj) (fun j hj => hj) id)
theorem FolE.step {t : Th} {s R : FS} {c' : Option Th} {lat' wait' : List Th} {fnd' : Option (List (Nat × Nat))} (hlt : t.1 < s.met.length)
    (h : FolE P E a G A c' ⟨s.met.set t.1 (a + 1), lat', wait', fnd'⟩ R) (hlat : ∀ i ∈ s.lat.map Prod.fst, i ∈ pendL c' lat') (hw : ∀ i ∈ s.wait, i ∈ wait') (hf : s.fnd.isSome = true → fnd'.isSome = true) : FolE P E a G A (some t) s R := by
  have hms := met_set (a := a) hlt
  refine ⟨h.len, h.low, h.wt, h.fg, ?_, fun i hi => h.mono i ((hms i).2 (Or.inl hi)), fun e => h.fmono (hf e), fun i hi => h.wmono i (hw i hi)⟩
  rcases h.done with h1 | ⟨h1, h2⟩
  · exact Or.inl h1
  · refine Or.inr ⟨h1, fun i hi => ?_⟩
    have hi : i ∈ t.1 :: s.lat.map Prod.fst := hi
    rcases List.mem_cons.1 hi with rfl | hi
    · exact h.mono _ ((hms _).2 (Or.inr rfl))
    · exact h2 i (hlat i hi)
theorem FolI.ends {c : Option Th} {s : FS} (h : FolI P E a G A c s) (hp : pendL c s.lat = []) : s.fnd.isSome = true ∨ (∀ i, MetS s.met a i → CloP P E a (MetS s.met a) (fun j => j ∈ s.wait.map Prod.fst) (s.fnd.isSome = true) i) ∧ ∀ t ∈ pendL c s.lat, MetS s.met a t := by
  by_cases hf : s.fnd.isSome = true
  · exact Or.inl hf
  · exact Or.inr ⟨fun i hi => ((h.clo i hi).resolve_left hf).mono (fun j hj => hj.elim id (fun hj => by rw [hp] at hj; cases hj)) (fun _ hj => hj) id, fun t ht => by rw [hp] at ht; cases ht⟩
theorem fol_inv (hP : ClosedS P) (nt : Bool)
    (hG : ∀ i, G i → match P[i]? with
      | some .start => a = 0 → G (i + 1)
      | some .stop => ¬ a < E → G (i + 1)
      | some (.note _) => G (i + 1)
      | some (.fork p q) => G p ∧ G q
      | some (.jump p) => G p
      | some .yes => ¬ a < E → A
      | _ => True) : ∀ (n : Nat) (c : Option Th) (s : FS), FolI P E a G A c s → leftS a c s ≤ n → FolE P E a G A c s (folF P E a nt n c s)
  | 0, c, s, h, hn => by
    unfold leftS at hn
    have h1 : s.lat = [] := List.eq_nil_of_length_eq_zero (by omega)
    have h2 : c = none := by
      cases c with
      | none => rfl
      | some t =>
        have h1 : curN (some t) = 1 := rfl
        omega
    subst h2
    rw [folF]
    have hp : pendL none s.lat = [] := by rw [h1]; rfl
    exact ⟨h.len, h.low, h.wt, h.fg, h.ends hp, fun _ h => h, id, fun _ h => h⟩
  | n + 1, none, s, h, hn => by
    rw [folF]
    cases hl : s.lat.getLast? with
    | none =>
      have h1 : s.lat = [] := List.getLast?_eq_none_iff.1 hl
      have hp : pendL none s.lat = [] := by rw [h1]; rfl
      exact ⟨h.len, h.low, h.wt, h.fg, h.ends hp, fun _ h => h, id, fun _ h => h⟩
    | some t =>
      have hne : s.lat ≠ [] := fun e => by rw [e] at hl; cases hl
      have hsp : s.lat = s.lat.dropLast ++ [t] := by
        have := List.dropLast_concat_getLast hne
        rw [List.getLast?_eq_some_getLast hne] at hl
        injection hl with hl
        rw [hl] at this
        exact this.symm
      have hmem : ∀ i, i ∈ pendL none s.lat ↔ i ∈ pendL (some t) s.lat.dropLast := fun i => by
        have e1 : pendL none s.lat = s.lat.dropLast.map Prod.fst ++ [t.1] := by
          show s.lat.map Prod.fst = _
          rw [hsp, List.map_append]
          simp
        have e2 : pendL (some t) s.lat.dropLast = t.1 :: s.lat.dropLast.map Prod.fst := rfl
        rw [e1, e2]
        simp [or_comm]
      have hI : FolI P E a G A (some t) { s with lat := s.lat.dropLast } := ⟨h.len, h.low, fun i hi => h.pend i ((hmem i).2 hi), fun i hi => (h.clo i hi).imp id fun h9 => h9.mono (fun j hj => hj.imp id (hmem j).1) (fun _ hj => hj) id, h.wt, h.fg⟩
      have hlen : s.lat.dropLast.length + 1 = s.lat.length := by
        have := congrArg List.length hsp
        rw [List.length_append] at this
        exact this.symm
      have ih := fol_inv hP nt hG n (some t) { s with lat := s.lat.dropLast } hI (by
        unfold leftS at hn ⊢
        unfold curN at hn ⊢
        dsimp only
        omega)
      refine ⟨ih.len, ih.low, ih.wt, ih.fg, ?_, ih.mono, ih.fmono, ih.wmono⟩
      rcases ih.done with h1 | ⟨h1, h2⟩
      · exact Or.inl h1
      · exact Or.inr ⟨h1, fun i hi => h2 i ((hmem i).1 hi)⟩
  | n + 1, some t, s, h, hn => by
    obtain ⟨hlt, hgt⟩ := h.pend t.1 (by simp [pendL])
    have hltm : t.1 < s.met.length := by rw [h.len]; exact hlt
    rw [folF]
    by_cases hm : s.met[t.1]? = some (a + 1)
    · rw [if_pos hm]
      have hI : FolI P E a G A none s := ⟨h.len, h.low, fun i hi => h.pend i (List.mem_cons_of_mem _ hi), fun i hi => (h.clo i hi).imp id fun h9 => h9.mono (fun j hj => by
        rcases hj with hj | hj
        · exact Or.inl hj
        · rcases List.mem_cons.1 (show j ∈ t.1 :: s.lat.map Prod.fst from hj) with rfl | hj
          · exact Or.inl hm
          · exact Or.inr hj) (fun _ hj => hj) id, h.wt, h.fg⟩
      have ih := fol_inv hP nt hG n none s hI (by
        unfold leftS at hn ⊢
        unfold curN at hn ⊢
        dsimp only at hn ⊢
        omega)
      refine ⟨ih.len, ih.low, ih.wt, ih.fg, ?_, ih.mono, ih.fmono, ih.wmono⟩
      rcases ih.done with h1 | ⟨h1, h2⟩
      · exact Or.inl h1
      · refine Or.inr ⟨h1, fun i hi => ?_⟩
        rcases List.mem_cons.1 (show i ∈ t.1 :: s.lat.map Prod.fst from hi) with rfl | hi
        · exact ih.mono _ hm
        · exact h2 i hi
    · rw [if_neg hm]
      have hu := unm_set hltm hm
      have hleft : ∀ (c' : Option Th) (lat' wait' : List Th) (fnd' : Option (List (Nat × Nat))), lat'.length ≤ s.lat.length + 1 → leftS a c' ⟨s.met.set t.1 (a + 1), lat', wait', fnd'⟩ ≤ n := fun c' lat' wait' fnd' hl => by
        unfold leftS at hn ⊢
        dsimp only
        have : curN c' ≤ 1 := by unfold curN; split <;> omega
        have h1 : curN (some t) = 1 := rfl
        omega
      have hlat0 : ∀ i ∈ s.lat.map Prod.fst, i < P.length ∧ G i := fun i hi => h.pend i (List.mem_cons_of_mem _ hi)
      have hgo : ∀ (c' : Option Th) (lat' wait' : List Th), lat'.length ≤ s.lat.length + 1 → (∀ i ∈ s.lat.map Prod.fst, i ∈ pendL c' lat') → (∀ i ∈ pendL c' lat', i < P.length ∧ G i) → (∀ i ∈ s.wait, i ∈ wait') → (∀ i ∈ wait', G i.1 ∧ i.1 < P.length) →
          CloP P E a (fun j => j ∈ pendL c' lat') (fun j => j ∈ wait'.map Prod.fst) (s.fnd.isSome = true) t.1 → FolE P E a G A (some t) s (folF P E a nt n c' ⟨s.met.set t.1 (a + 1), lat', wait', s.fnd⟩) := fun c' lat' wait' h1 h2 h3 h4 h5 h6 =>
        FolE.step hltm (fol_inv hP nt hG n c' _ (h.step c' lat' wait' s.fnd h2 h3 h4 h5 id h.fg h6) (hleft c' lat' wait' s.fnd h1)) h2 h4 id
      have hg := hG t.1 hgt
      cases hp : P[t.1]? with
      | none =>
        exfalso
        rw [List.getElem?_eq_none_iff] at hp
        omega
      | some m =>
        rw [hp] at hg
        cases m with
        | take l neg =>
          refine hgo none s.lat (s.wait ++ [t]) (by omega) (fun i hi => hi) (fun i hi => hlat0 i hi) (fun i hi => by simp [hi]) (fun i hi => ?_) ?_
          · rcases List.mem_append.1 hi with hi | hi
            · exact h.wt i hi
            · rw [List.mem_singleton.1 hi]
              exact ⟨hgt, hlt⟩
          · unfold CloP
            rw [hp]
            simp
        | start =>
          dsimp only
          by_cases ha : 0 < a
          · rw [if_pos ha]
            refine hgo none s.lat s.wait (by omega) (fun i hi => hi) (fun i hi => hlat0 i hi) (fun i hi => hi) h.wt ?_
            unfold CloP
            rw [hp]
            exact fun e => by omega
          · rw [if_neg ha]
            have h1 := hP.step hp (by simp)
            refine hgo (some (t.1 + 1, t.2)) s.lat s.wait (by omega) (fun i hi => List.mem_cons_of_mem _ hi) (fun i hi => ?_) (fun i hi => hi) h.wt ?_
            · rcases List.mem_cons.1 (show i ∈ (t.1 + 1) :: s.lat.map Prod.fst from hi) with rfl | hi
              · exact ⟨h1, hg (by omega)⟩
              · exact hlat0 i hi
            · unfold CloP
              rw [hp]
              exact fun _ => by simp [pendL]
        | stop =>
          dsimp only
          by_cases ha : a < E
          · rw [if_pos ha]
            refine hgo none s.lat s.wait (by omega) (fun i hi => hi) (fun i hi => hlat0 i hi) (fun i hi => hi) h.wt ?_
            unfold CloP
            rw [hp]
            exact fun e => absurd ha e
          · rw [if_neg ha]
            have h1 := hP.step hp (by simp)
            refine hgo (some (t.1 + 1, t.2)) s.lat s.wait (by omega) (fun i hi => List.mem_cons_of_mem _ hi) (fun i hi => ?_) (fun i hi => hi) h.wt ?_
            · rcases List.mem_cons.1 (show i ∈ (t.1 + 1) :: s.lat.map Prod.fst from hi) with rfl | hi
              · exact ⟨h1, hg ha⟩
              · exact hlat0 i hi
            · unfold CloP
              rw [hp]
              exact fun _ => by simp [pendL]
        | note k =>
          have h1 := hP.step hp (by simp)
          refine hgo (some (t.1 + 1, _)) s.lat s.wait (by omega) (fun i hi => List.mem_cons_of_mem _ hi) (fun i hi => ?_) (fun i hi => hi) h.wt ?_
          · rcases List.mem_cons.1 (show i ∈ (t.1 + 1) :: s.lat.map Prod.fst from hi) with rfl | hi
            · exact ⟨h1, hg⟩
            · exact hlat0 i hi
          · unfold CloP
            rw [hp]
            simp [pendL]
        | fork p q =>
          have h1 := hP.tgt t.1 _ hp
          refine hgo (some (p, t.2)) (s.lat ++ [(q, t.2)]) s.wait (by simp) (fun i hi => List.mem_cons_of_mem p (show i ∈ (s.lat ++ [(q, t.2)]).map Prod.fst by rw [List.map_append]; exact List.mem_append_left _ hi)) (fun i hi => ?_) (fun i hi => hi) h.wt ?_
          · rcases List.mem_cons.1 (show i ∈ p :: (s.lat ++ [(q, t.2)]).map Prod.fst from hi) with rfl | hi
            · exact ⟨h1.1, hg.1⟩
            · rw [List.map_append] at hi
              rcases List.mem_append.1 hi with hi | hi
              · exact hlat0 i hi
              · rw [List.mem_singleton.1 hi]
                exact ⟨h1.2, hg.2⟩
          · unfold CloP
            rw [hp]
            exact ⟨by simp [pendL], by simp [pendL]⟩
        | jump p =>
          have h1 : p < P.length := hP.tgt t.1 _ hp
          refine hgo (some (p, t.2)) s.lat s.wait (by omega) (fun i hi => List.mem_cons_of_mem _ hi) (fun i hi => ?_) (fun i hi => hi) h.wt ?_
          · rcases List.mem_cons.1 (show i ∈ p :: s.lat.map Prod.fst from hi) with rfl | hi
            · exact ⟨h1, hg⟩
            · exact hlat0 i hi
          · unfold CloP
            rw [hp]
            simp [pendL]
        | yes =>
          dsimp only
          by_cases ha : a < E
          · rw [if_pos ha]
            refine hgo none s.lat s.wait (by omega) (fun i hi => hi) (fun i hi => hlat0 i hi) (fun i hi => hi) h.wt ?_
            unfold CloP
            rw [hp]
            exact fun e => absurd ha e
          · rw [if_neg ha]
            have hms := met_set (a := a) hltm
            refine ⟨by simpa using h.len, fun i m hm2 => ?_, h.wt, fun _ => hg ha, Or.inl rfl, fun i hi => (hms i).2 (Or.inl hi), fun _ => rfl, fun _ hi => hi⟩
            have hm2 : (s.met.set t.1 (a + 1))[i]? = some m := hm2
            by_cases e : t.1 = i
            · rw [← e, List.getElem?_set_self hltm] at hm2
              injection hm2 with hm2
              omega
            · rw [List.getElem?_set_ne e] at hm2
              exact h.low i m hm2
end
end Go.Proofs.YtmbkcmfcdjccoaaDoor
