/- Texts that belong together. -/
import Derived.Test.YtdadagbkkaeejaaGreatDoorMEy3
import Derived.Test.YtdadagbkkaeejaaGreatDoorMEy4
import Derived.Test.YtdadagbkkaeejaaGreatDoorMEy7
/- wakes. -/
namespace Go.Proofs.YtdadagbkkaeejaaGreatDoor
open Go.RowKit Go.Maps
attribute [local go_sem] run_store_float

theorem parse_two : Nu.parseR ⟨#[50]⟩ = (4611686018427387904, 0) := by kernel_rfl
theorem int_three : Nu.intR ⟨#[51]⟩ = (3, 0) := by
  have e : Lib.itoa 3 = [51] := by
    unfold Lib.itoa
    rw [if_neg (by decide)]
    exact Lib.decDigits_one (show 3 < 10 by decide)
  have h := Nu.intR_yes (v := 3) ⟨by decide, by decide⟩
  rw [e] at h
  exact h
theorem read_w : readR ⟨#[117, 112, 123, 97, 61, 34, 49, 34, 125, 32, 50, 32, 51]⟩ = .ok [(nameB, ⟨#[117, 112]⟩), (⟨#[97]⟩, ⟨#[49]⟩)] 4611686018427387904 3 true := by
  obtain ⟨s, hs⟩ : ∃ s : ByteArray, s = ⟨#[117, 112, 123, 97, 61, 34, 49, 34, 125, 32, 50, 32, 51]⟩ := ⟨_, rfl⟩
  rw [← hs]
  have h0 : skipP s.data.toList 0 = 0 := by rw [hs]; kernel_rfl
  have h1 : wordP true s.data.toList 0 = 2 := by rw [hs]; kernel_rfl
  have h2 : skipP s.data.toList 2 = 2 := by rw [hs]; kernel_rfl
  have h3 : s.data.toList[2]? = some 123 := by rw [hs]; kernel_rfl
  have h4 : labsR s (s.size + 1) (2 + 1) [] = .inr ([(⟨#[97]⟩, ⟨#[49]⟩)], 9) := by rw [hs]; kernel_rfl
  have h5 : skipP s.data.toList 9 = 10 := by rw [hs]; kernel_rfl
  have h6 : tokP s.data.toList 10 = 11 := by rw [hs]; kernel_rfl
  have h7 : s.extract 10 11 = ⟨#[50]⟩ := by rw [hs]; kernel_rfl
  have h8 : skipP s.data.toList 11 = 12 := by rw [hs]; kernel_rfl
  have h9 : tokP s.data.toList 12 = 13 := by rw [hs]; kernel_rfl
  have ha : s.extract 12 13 = ⟨#[51]⟩ := by rw [hs]; kernel_rfl
  have hb : skipP s.data.toList 13 = 13 := by rw [hs]; kernel_rfl
  have hc : s.size = 13 := by rw [hs]; rfl
  have hd : s.extract 0 2 = ⟨#[117, 112]⟩ := by rw [hs]; kernel_rfl
  have he : hasL [((⟨#[97]⟩ : ByteArray), (⟨#[49]⟩ : ByteArray))] nameB = false := by kernel_rfl
  have hf : newR ((nameB, ⟨#[117, 112]⟩) :: [((⟨#[97]⟩ : ByteArray), (⟨#[49]⟩ : ByteArray))]) = ([(nameB, ⟨#[117, 112]⟩), (⟨#[97]⟩, ⟨#[49]⟩)], 0) := by kernel_rfl
  unfold readR
  rw [h0, h1, if_neg (by decide), h2, if_pos h3, h4]
  dsimp only
  rw [h5, hd]
  unfold numsR
  rw [h6, h7, parse_two, if_neg (by decide), h8, if_pos (by omega), h9, ha, int_three, if_neg (by decide), hb, if_neg (by omega)]
  unfold setR
  rw [he, if_neg (by decide), hf, if_neg (by decide)]
theorem line_w : lineR ⟨#[117, 112, 123, 97, 61, 34, 49, 34, 125, 32, 50, 32, 51]⟩ = .ok [(nameB, ⟨#[117, 112]⟩), (⟨#[97]⟩, ⟨#[49]⟩)] 4611686018427387904 3 true := by
  unfold lineR
  rw [if_neg (by decide), read_w]
theorem escape_w : (⟨(escL (⟨#[34]⟩ : ByteArray).data.toList).toArray⟩ : ByteArray) = ⟨#[92, 34]⟩ := by kernel_rfl

set_option maxRecDepth 100000 in
set_option maxHeartbeats 1000000 in
theorem wakesE_any (B : Nat) (w : World) (hB : B ≤ w.heap.size) (hE : Env w B) : Calls Tryz.prog 8 #[] w fun e w' => e = .returned (.bool true) ∧ Below w.heap.size w w' := by
  have hr := readLine_any B ⟨#[117, 112, 123, 97, 61, 34, 49, 34, 125, 32, 50, 32, 51]⟩ w hB hE (by decide)
  rw [line_w] at hr
  have HES : Hid (∀ W : World, Calls Tryz.prog 12 #[.string ⟨#[34]⟩] W fun e w' => e = .returned (.string ⟨#[92, 34]⟩) ∧ Below W.heap.size W w') := fun W => by
    have h9 := escape_any ⟨#[34]⟩ W (by decide)
    rw [escape_w] at h9
    exact h9
  have heq : FloatKind.f64.format.order 4611686018427387904 4611686018427387904 = some .eq := by kernel_rfl
  clear hE hB
  go_enter Tryz.func8, Tryz.ntmps8
  go_wp2_with (first
    | (go_at_call 11; refine hr.mono ?_; clear hr; rintro e w1 ⟨⟨a, n, c, rfl, hrow⟩, hb1⟩; obtain ⟨a', c', hsl⟩ := slice_of_row hrow; cases hsl; have HB1 : Hid (Below w.heap.size w w1) := hb1; clear hb1 hrow)
    | (go_at_call 12; refine (HES.out _).mono ?_; clear HES; rintro e w2 ⟨rfl, hb2⟩; have HB2 : Hid (Below w.heap.size w w2) := (HB1.out.alloc HB1.out.size _).trans (hb2.mono (by have := HB1.out.size; simp; omega)); clear hb2))
  go_ret
  exact ⟨rfl, HB2.out⟩
end Go.Proofs.YtdadagbkkaeejaaGreatDoor

/- ExpoLines, of any body (over what comes in). -/
namespace Go.Proofs.YtdadagbkkaeejaaGreatDoor
open Go.RowKit Go.Maps

theorem numL_get : ∀ (m : Nat) (L : List (List UInt8)) (k : Nat) (h : k < (numL m L).length), (numL m L)[k].1 = (m : Int) + k
  | m, [], k, h => absurd h (Nat.not_lt_zero _)
  | m, x :: t, 0, h => by simp [numL]
  | m, x :: t, k + 1, h => by
    have h9 := numL_get (m + 1) t k (by simpa [numL] using h)
    simp only [numL, List.getElem_cons_succ]
    rw [h9]
    omega
theorem numL_snd : ∀ (m : Nat) (L : List (List UInt8)), (numL m L).map Prod.snd = L.map mkB
  | _, [] => rfl
  | m, x :: t => by simp [numL, numL_snd (m + 1) t]
theorem Env.on {w W : World} (h : Env w w.heap.size) (hb : Below w.heap.size w W) : Env W w.heap.size := fun W' hb' => h W' (hb.trans hb')

theorem linesLaw_any (v : Value) (bs : List UInt8) (stop : Int) (w : World) (h : BytesAt w v bs) (hs : -9223372036854775808 ≤ stop ∧ stop ≤ 9223372036854775807) (hE : Env w w.heap.size) :
    Calls Tryz.prog 3 #[v, .int .i64 stop] w fun e w' => e = .returned (.bool true) ∧ Below w.heap.size w w' := by
  have hbl : bs.length ≤ 9223372036854775807 := by
    obtain ⟨a, c, -, hlc, -⟩ := h
    have := hlc.2
    unfold maxLen at this
    omega
  obtain ⟨cb, hcb⟩ : ∃ cb, cb = bs.take 1500 := ⟨_, rfl⟩
  have hcl : cb.length ≤ 1500 := by rw [hcb, List.length_take]; omega
  have hcount := linesF_count cb
  refine linesLaw_of v cb (numL 1 (linesF cb)) stop w hs.1 hs.2 hcl (by rw [numL_length]; omega) (fun k hk => ?_) rfl (fun W hb => (hE W hb).2.2.2) (fun W hb => ?_) (fun W a c hB => ?_) (fun W hb => ?_)
  · rw [numL_get]
    omega
  · refine (clip_any v bs W (h.below hb) hbl).mono ?_
    rintro e w' ⟨v', rfl, hv, hw⟩
    rw [← hcb] at hv
    obtain ⟨a, c, rfl, -, -⟩ := id hv
    exact ⟨a, c, rfl, hv, hw⟩
  · refine (refLines_any _ cb W hB (by omega)).mono ?_
    rintro e w' ⟨v', rfl, hr, hb⟩
    obtain ⟨a', c', rfl⟩ := slice_of_row hr
    rw [numL_length, numL_snd]
    refine ⟨a', c', rfl, ?_, hb⟩
    have hl : (linesF cb).length = ((linesF cb).map mkB).length := by simp
    rw [hl] at hr ⊢
    refine TextsAt.of_row hr (fun x hx => ?_)
    obtain ⟨l, hl9, rfl⟩ := List.mem_map.1 hx
    have := linesA_sizes cb [] l hl9
    rw [mkB_size]
    unfold maxLen
    simp at this
    omega
  · exact wakesE_any w.heap.size W hb.size (hE.on hb)
end Go.Proofs.YtdadagbkkaeejaaGreatDoor
