/- A new disk; a file is created. -/
import Derived.Test.YtipakfdebccchaaMW4
namespace Go.Proofs.Ytipakfdebccchaa
open Go.RowKit Go.Maps
open Go.WideMaps Go.WideElems

/-- What a disk holds, but for its files. -/
structure St where
  cap : Int
  used : Int
  ops : Int
  stop : Int
  nb : Nat
  db : Nat
  fb : Nat
  pv : Value
  n : Nat
  N : DataW Unit
  D : DataW Unit
  F : DataW Unit
  pend : List (ByteArray × ByteArray × Option Addr)

/-- The blocks that a disk may write, but for its files. -/
def St.own (s : St) (d : Nat) (k : Nat) : Prop := k = d ∨ k = s.nb ∨ k = s.db ∨ k = s.fb ∨ s.pv.ownBlock = some k

structure IsDisk (w : World) (d : Nat) (s : St) : Prop where
  at_ : DiskAt w d s.cap s.used s.ops s.nb s.db s.pv s.fb s.stop
  mN : w.ownsMap Try.prog 9 fileElem s.nb s.n s.N
  mD : w.ownsMap Try.prog 9 fileElem s.db s.n s.D
  mF : w.ownsMap Try.prog 3 (plainElem Try.prog 3) s.fb s.n s.F
  row : w.ownsRow 0 101 3 s.pv s.pend.length (chRow s.pend)
  nd : s.nb ≠ s.db
  nf : s.nb ≠ s.fb
  df : s.db ≠ s.fb
  o0 : 0 ≤ s.ops
  s0 : -1 ≤ s.stop
  s1 : s.stop ≤ 9223372036854775807

theorem IsDisk.kept {w w' : World} {d : Nat} {s : St} (h : IsDisk w d s) {O : Nat → Prop} (k : Kept O w w') (hO : ∀ i, s.own d i → ¬ O i) : IsDisk w' d s :=
  ⟨h.at_.kept k (hO _ (Or.inl rfl)), k.ownsMap h.mN (hO _ (Or.inr (Or.inl rfl))), k.ownsMap h.mD (hO _ (Or.inr (Or.inr (Or.inl rfl)))), k.ownsMap h.mF (hO _ (Or.inr (Or.inr (Or.inr (Or.inl rfl))))),
    k.ownsRow h.row (fun _ hi => hO _ (Or.inr (Or.inr (Or.inr (Or.inr hi))))), h.nd, h.nf, h.df, h.o0, h.s0, h.s1⟩

theorem IsDisk.lt {w : World} {d : Nat} {s : St} (h : IsDisk w d s) : ∀ k, s.own d k → k < w.heap.size := by
  intro k hk
  rcases hk with rfl | rfl | rfl | rfl | hk
  · exact h.at_.lt
  · exact h.mN.lt
  · exact h.mD.lt
  · exact h.mF.lt
  · exact (h.row.lt k hk).2

def newSt (cap : Int) (B : Nat) : St := ⟨cap, 0, 0, -1, B, B + 1, B + 2, .slice none 0 0, 0, .map [], .map [], .map [], []⟩

set_option maxRecDepth 100000 in
set_option maxHeartbeats 1000000 in
theorem new_walk (cap : Int) (w : World) :
    Calls Try.prog 5 #[.int .i64 cap] w fun e w' => e = .returned (.pointer (some ⟨w.heap.size + 3, 0, none⟩)) ∧ w' = (((w.alloc (.map #[] 0)).alloc (.map #[] 0)).alloc (.map #[] 0)).alloc (.cells #[.int .i64 (max cap 0), .int .i64 0, .int .i64 0, .map (some w.heap.size), .map (some (w.heap.size + 1)), .slice none 0 0, .map (some (w.heap.size + 2)), .int .i64 (-1)] 59) := by
  have hmm := @run_makeMap Try.prog
  go_enter Try.func5, Try.ntmps5
  go_wp2
  go_ret
  exact ⟨rfl, rfl⟩

theorem new_any (cap : Int) (w : World) :
    Calls Try.prog 5 #[.int .i64 cap] w fun e w' => e = .returned (.pointer (some ⟨w.heap.size + 3, 0, none⟩)) ∧ IsDisk w' (w.heap.size + 3) (newSt (max cap 0) w.heap.size) ∧ Below w.heap.size w w' := by
  refine (new_walk cap w).mono fun e w' ⟨he, hw⟩ => ?_
  subst hw
  refine ⟨he, ⟨?_, ?_, ?_, ?_, World.ownsRow_nil _ _ _ _, ?_, ?_, ?_, ?_, ?_, ?_⟩, ?_⟩
  · have e := heap_alloc_new (((w.alloc (.map #[] 0)).alloc (.map #[] 0)).alloc (.map #[] 0)) (.cells #[.int .i64 (max cap 0), .int .i64 0, .int .i64 0, .map (some w.heap.size), .map (some (w.heap.size + 1)), .slice none 0 0, .map (some (w.heap.size + 2)), .int .i64 (-1)] 59)
    have e2 : (((w.alloc (.map #[] 0)).alloc (.map #[] 0)).alloc (.map #[] 0)).heap.size = w.heap.size + 3 := by simp
    rw [e2] at e
    exact e
  · exact (((World.ownsMap_made w Try.prog 9 fileElem).alloc _).alloc _).alloc _
  · have e := ((World.ownsMap_made (w.alloc (.map #[] 0)) Try.prog 9 fileElem).alloc (.map #[] 0)).alloc (.cells #[.int .i64 (max cap 0), .int .i64 0, .int .i64 0, .map (some w.heap.size), .map (some (w.heap.size + 1)), .slice none 0 0, .map (some (w.heap.size + 2)), .int .i64 (-1)] 59)
    have e2 : (w.alloc (.map #[] 0)).heap.size = w.heap.size + 1 := by simp
    rw [e2] at e
    exact e
  · have e := (World.ownsMap_made ((w.alloc (.map #[] 0)).alloc (.map #[] 0)) Try.prog 3 (plainElem (H := Unit) Try.prog 3)).alloc (.cells #[.int .i64 (max cap 0), .int .i64 0, .int .i64 0, .map (some w.heap.size), .map (some (w.heap.size + 1)), .slice none 0 0, .map (some (w.heap.size + 2)), .int .i64 (-1)] 59)
    have e2 : ((w.alloc (.map #[] 0)).alloc (.map #[] 0)).heap.size = w.heap.size + 2 := by simp
    rw [e2] at e
    exact e
  · simp [newSt]
  · simp [newSt]
  · simp [newSt]
  · simp [newSt]
  · simp [newSt]
  · simp [newSt]
  · exact ((((Below.refl _ w).alloc (Nat.le_refl _) _).alloc (by simp) _).alloc (by simp; omega) _).alloc (by simp; omega) _

def St.begun (s : St) : St := { s with ops := s.ops + 1, stop := bStop s.stop, F := s.F.del (.int .i64 s.ops) }

/-- What refuses the next operation, whatever it is. -/
def St.err (s : St) : Int := bErr (Maps.has s.F (.int .i64 s.ops)) s.stop

theorem begin_is {w : World} {d : Nat} {s : St} (h : IsDisk w d s) (ho : s.ops < 1000000000) : ∃ c : Int, s.F.atKey (.int .i64 s.ops) (.lit (.int .i64 0)) = .lit (.int .i64 c) ∧
    Calls Try.prog 59 #[.pointer (some ⟨d, 0, none⟩)] w fun e w' => e = .returned (.tuple #[.int .i64 s.err, .bool (bTorn (Maps.has s.F (.int .i64 s.ops)) c s.stop)]) ∧ IsDisk w' d s.begun ∧ Kept (fun k => k = d ∨ k = s.fb) w w' := by
  obtain ⟨c, hat, hc⟩ := begin_any d s.cap s.used s.ops s.nb s.db s.pv s.fb s.stop s.n s.F w h.at_ h.mF h.o0 ho h.s0 h.s1
  refine ⟨c, hat, hc.mono fun e w' ⟨he, hd, hF, hk⟩ => ⟨he, ⟨hd, ?_, ?_, hF, ?_, h.nd, h.nf, h.df, ?_, ?_, ?_⟩, hk⟩⟩
  · exact hk.ownsMap h.mN (fun e => e.elim (fun e => h.at_.ne_map h.mN e.symm) (fun e => h.nf e))
  · exact hk.ownsMap h.mD (fun e => e.elim (fun e => h.at_.ne_map h.mD e.symm) (fun e => h.df e))
  · exact hk.ownsRow h.row (fun k hk' e => e.elim (fun e => h.at_.ne_row h.row (by decide) (e ▸ hk')) (fun e => map_ne_row h.mF h.row (e ▸ hk')))
  · have := h.o0; show 0 ≤ s.ops + 1; omega
  · have := h.s0; show -1 ≤ bStop s.stop; unfold bStop; split <;> omega
  · have := h.s1; show bStop s.stop ≤ _; unfold bStop; split <;> omega

theorem begun_own {s : St} {d k : Nat} (h : k = d ∨ k = s.fb) : s.own d k := by
  rcases h with h | h
  · exact Or.inl h
  · exact Or.inr (Or.inr (Or.inr (Or.inl h)))

theorem rn_size {s : ByteArray} (h : rn s = true) : 1 ≤ s.size ∧ s.size ≤ 64 := by
  simp [rn] at h
  omega
theorem rn_ne {s : ByteArray} (h : rn s = true) : s.toList.isEmpty = false := by
  have := (rn_size h).1
  rw [ByteArray.toList_eq]
  cases e : s.data.toList with
  | nil => have h2 : s.data.toList.length = s.size := by simp
           rw [e] at h2
           simp at h2
           omega
  | cons a b => rfl
theorem doD_new {D : DataW Unit} {name : ByteArray} {f : DataW Unit} (h : rn name = true) : doD D ByteArray.empty name f = D.put (.string name.data.toList) f := by
  simp [doD, rn_ne h]

section
variable {w : World} {d : Nat} {s : St} (h : IsDisk w d s) (ho : s.ops < 1000000000) (name : ByteArray)
include h ho

set_option maxHeartbeats 1000000 in
theorem create_refused (hE : s.err ≠ 0) :
    Calls Try.prog 33 #[.pointer (some ⟨d, 0, none⟩), .string name] w fun e w' => e = .returned (.int .i64 s.err) ∧ IsDisk w' d s.begun ∧ Kept (s.own d) w w' := by
  obtain ⟨c, _, hbeg⟩ := begin_is h ho
  have HK : Hid (∀ w', Kept (fun k => k = d ∨ k = s.fb) w w' → Kept (s.own d) w w') := fun w' k => k.mono (fun _ _ h => begun_own h)
  have hE' : (s.err == 0) = false := by simpa using hE
  generalize s.err = er at *
  generalize bTorn (Maps.has s.F (.int .i64 s.ops)) c s.stop = torn at *
  clear hE
  go_enter Try.func33, Try.ntmps33
  go_wp2_with (go_at_call 59; refine hbeg.mono ?_; rintro e w1 ⟨rfl, hI, hk⟩)
  all_goals first | (go_ret; exact ⟨rfl, hI, HK.out _ hk⟩) | (exfalso; simp at *; omega)

variable (hE : s.err = 0)
include hE

set_option maxHeartbeats 1000000 in
theorem create_bad (hs : name.size ≤ maxLen) (hr : rn name = false) :
    Calls Try.prog 33 #[.pointer (some ⟨d, 0, none⟩), .string name] w fun e w' => e = .returned (.int .i64 2) ∧ IsDisk w' d s.begun ∧ Kept (s.own d) w w' := by
  obtain ⟨c, _, hbeg⟩ := begin_is h ho
  have HK : Hid (∀ w', Kept (fun k => k = d ∨ k = s.fb) w w' → Kept (s.own d) w w') := fun w' k => k.mono (fun _ _ h => begun_own h)
  rw [hE] at hbeg
  generalize bTorn (Maps.has s.F (.int .i64 s.ops)) c s.stop = torn at *
  go_enter Try.func33, Try.ntmps33
  go_wp2_with (first | (go_at_call 59; refine hbeg.mono ?_; rintro e w1 ⟨rfl, hI, hk⟩) | (go_at_call 41; refine (find_bad _ _ _ hs hr).mono ?_; rintro e w2 ⟨rfl, rfl⟩))
  go_ret
  exact ⟨rfl, hI, HK.out _ hk⟩

set_option maxHeartbeats 1000000 in
theorem create_there (f : Nat) (hs : name.size ≤ maxLen) (hr : rn name = true) (hat : s.N.atKey (.string name.data.toList) .nil = .lit (.int .i64 f)) :
    Calls Try.prog 33 #[.pointer (some ⟨d, 0, none⟩), .string name] w fun e w' => e = .returned (.int .i64 4) ∧ IsDisk w' d s.begun ∧ Kept (s.own d) w w' := by
  obtain ⟨c, _, hbeg⟩ := begin_is h ho
  have HK : Hid (∀ w', Kept (fun k => k = d ∨ k = s.fb) w w' → Kept (s.own d) w w') := fun w' k => k.mono (fun _ _ h => begun_own h)
  have HA : Hid (s.N.atKey (.string name.data.toList) .nil = .lit (.int .i64 f)) := hat
  clear hat
  rw [hE] at hbeg
  generalize bTorn (Maps.has s.F (.int .i64 s.ops)) c s.stop = torn at *
  go_enter Try.func33, Try.ntmps33
  go_wp2_with (first | (go_at_call 59; refine hbeg.mono ?_; rintro e w1 ⟨rfl, hI, hk⟩) | (go_at_call 41; refine (find_some _ _ _ _ _ _ _ _ _ _ _ _ _ f hs hr hI.at_ hI.mN HA.out).mono ?_; rintro e w2 ⟨rfl, rfl⟩))
  go_ret
  exact ⟨rfl, hI, HK.out _ hk⟩

set_option maxRecDepth 100000 in
set_option maxHeartbeats 1000000 in
theorem create_new (hn : s.n < 1000000000) (hl : s.pend.length < 1000000000) (hr : rn name = true) (hs : name.size ≤ 1000000) (hat : s.N.atKey (.string name.data.toList) .nil = .nil) :
    Calls Try.prog 33 #[.pointer (some ⟨d, 0, none⟩), .string name] w fun e w' => e = .returned (.int .i64 0) ∧ ∃ f pv', w.heap.size ≤ f ∧
      IsDisk w' d { s.begun with N := s.N.put (.string name.data.toList) (.lit (.int .i64 f)), pend := s.pend ++ [(ByteArray.empty, name, some ⟨f, 0, none⟩)], pv := pv', n := s.n + 1 } ∧
      w'.heap[f]? = some (.cells #[.slice none 0 0, .int .i64 0] 72) ∧ (pv'.ownBlock = s.pv.ownBlock ∨ ∃ g, pv'.ownBlock = some g ∧ w.heap.size ≤ g) ∧ Kept (s.own d) w w' := by
  obtain ⟨c, _, hbeg⟩ := begin_is h ho
  have hs' : name.size ≤ maxLen := by unfold maxLen; omega
  have HA : Hid (s.N.atKey (.string name.data.toList) .nil = .nil) := hat
  clear hat
  rw [hE] at hbeg
  generalize bTorn (Maps.has s.F (.int .i64 s.ops)) c s.stop = torn at *
  go_enter Try.func33, Try.ntmps33
  go_wp2_with (first | (go_at_call 59; refine hbeg.mono ?_; rintro e w1 ⟨rfl, hI, hk⟩) | (go_at_call 41; refine (find_none _ _ _ _ _ _ _ _ _ _ _ _ _ hs' hr hI.at_ hI.mN HA.out).mono ?_; rintro e w1 ⟨rfl, rfl⟩) | (go_at_call 60; refine (apply_any d _ _ _ _ _ _ _ _ s.n s.N s.pend ByteArray.empty name (some ⟨w1.heap.size, 0, none⟩) (.lit (.int .i64 w1.heap.size)) _ (hI.at_.alloc _) (hI.mN.alloc _) (hI.row.alloc _) hn hl (by decide) hs rfl).mono ?_; rintro e w3 ⟨rfl, pv', hd3, hN3, hP3, hpv, hk3⟩))
  go_ret
  have k0 : Kept (s.own d) w (w1.alloc (.cells #[.slice none 0 0, .int .i64 0] 72)) := (hk.mono (fun _ _ h => begun_own h)).alloc _
  have hsz : (w1.alloc (.cells #[.slice none 0 0, .int .i64 0] 72)).heap.size = w1.heap.size + 1 := by simp
  have hlt := hI.lt
  have hf : ∀ k, s.own d k → k ≠ w1.heap.size := fun k hk' e => by have := hlt k hk'; omega
  have hpu : ∀ k, (k = d ∨ k = s.nb ∨ s.pv.ownBlock = some k) → s.own d k := fun k hk' => by
    rcases hk' with h | h | h
    · exact Or.inl h
    · exact Or.inr (Or.inl h)
    · exact Or.inr (Or.inr (Or.inr (Or.inr h)))
  refine ⟨rfl, w1.heap.size, pv', hk.size, ⟨hd3, ?_, ?_, ?_, ?_, h.nd, h.nf, h.df, hI.o0, hI.s0, hI.s1⟩, ?_, ?_, k0.trans hk3 (fun k _ hk' => hpu k hk')⟩
  · rw [doD_new hr] at hN3
    exact hN3
  · exact (hk3.ownsMap (hI.mD.alloc _) (fun e => by
      rcases e with e | e | e
      · exact hI.at_.ne_map hI.mD e.symm
      · exact h.nd e.symm
      · exact map_ne_row hI.mD hI.row e)).mono (Nat.le_succ _)
  · exact (hk3.ownsMap (hI.mF.alloc _) (fun e => by
      rcases e with e | e | e
      · exact hI.at_.ne_map hI.mF e.symm
      · exact h.nf e.symm
      · exact map_ne_row hI.mF hI.row e)).mono (Nat.le_succ _)
  · simpa using hP3
  · exact hk3.heap (heap_alloc_new w1 _) (fun e => hf _ (hpu _ e) rfl)
  · rcases hpv with e | ⟨g, e, hg⟩
    · exact Or.inl e
    · exact Or.inr ⟨g, e, by have := hk.size; omega⟩
end

end Go.Proofs.Ytipakfdebccchaa
