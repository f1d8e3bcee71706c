/- How the program cuts a duration's parts. -/
import Derived.Test.YtmlcilalmhpmiaaDoorMGd
import Derived.BigQuiet
namespace Go.Proofs.YtmlcilalmhpmiaaDoor
open Go.RowKit Go.Maps

theorem tw_take {p : UInt8 → Bool} {l : List UInt8} {k : Nat} (_hk : k ≤ l.length) (h : ∀ b ∈ l.take k, p b = true) (he : ∀ hlt : k < l.length, p l[k] = false) : l.takeWhile p = l.take k ∧ l.dropWhile p = l.drop k := by
  have h1 := tw_append (p := p) (l.take k) (l.drop k) h (fun c t e => by
    rcases Nat.lt_or_ge k l.length with hlt | hge
    · rw [List.drop_eq_getElem_cons hlt] at e
      rw [← (List.cons.inj e).1]
      exact he hlt
    · rw [List.drop_of_length_le hge] at e
      cases e)
  rw [List.take_append_drop] at h1
  exact h1
theorem tw_more {p : UInt8 → Bool} {l : List UInt8} {k : Nat} (hk : k < l.length) (h : ∀ b ∈ l.take k, p b = true) (hp : p l[k] = true) : ∀ b ∈ l.take (k + 1), p b = true := fun b hb => by
  rw [List.take_succ_eq_append_getElem hk] at hb
  rcases List.mem_append.1 hb with h1 | h1
  · exact h b h1
  · rw [List.mem_singleton.1 h1]; exact hp
theorem tw_long {p : UInt8 → Bool} : ∀ {l : List UInt8} {k : Nat}, k ≤ l.length → (∀ b ∈ l.take k, p b = true) → k ≤ (l.takeWhile p).length
  | [], k, hk, _ => by simpa using hk
  | x :: l, 0, _, _ => Nat.zero_le _
  | x :: l, k + 1, hk, h => by
    rw [List.takeWhile_cons_of_pos (h x (by simp))]
    have := tw_long (p := p) (l := l) (k := k) (by simpa using hk) (fun b hb => h b (by simp [hb]))
    simpa using this
theorem ext_list (s : ByteArray) (a b : Nat) : s.extract a b = ⟨((s.data.toList.take b).drop a).toArray⟩ := by
  apply ByteArray.ext
  apply Array.ext'
  simp [ByteArray.data_extract, List.drop_take, List.extract_eq_take_drop]
def cutV (l : List UInt8) : Value := match cutP l with
  | none => .tuple #[.int .i64 0, .string ⟨#[]⟩, .string ⟨#[]⟩, .bool false]
  | some (n, nm, r) => .tuple #[.int .i64 n, .string ⟨nm.toArray⟩, .string ⟨r.toArray⟩, .bool true]

theorem cutV_some {l : List UInt8} {k e : Nat} (h0 : k ≠ 0) (h15 : k ≤ 15) (hk : k ≤ l.length) (h1 : ∀ b ∈ l.take k, isDB b = true) (h2 : ∀ _ : k < l.length, isDB l[k] = false) (hke : k ≤ e) (he : e ≤ l.length) (h3 : ∀ b ∈ (l.drop k).take (e - k), isDB b = false) (h4 : ∀ _ : e < l.length, isDB l[e] = true) : cutV l = .tuple #[.int .i64 (valT (l.take k) : Nat), .string ⟨((l.take e).drop k).toArray⟩, .string ⟨(l.drop e).toArray⟩, .bool true] := by
  obtain ⟨a1, a2⟩ := tw_take hk h1 h2
  obtain ⟨b1, b2⟩ := tw_take (p := fun b => !isDB b) (l := l.drop k) (k := e - k) (by simp; omega) (fun b hb => by simp [h3 b hb]) (fun hlt => by
    have h5 : e < l.length := by simp at hlt; omega
    have h6 : (l.drop k)[e - k] = l[e] := by
      rw [List.getElem_drop]
      congr 1
      omega
    rw [h6, h4 h5]
    rfl)
  unfold cutV cutP
  rw [a1, a2, b1, b2, if_neg (by
    rw [List.take_eq_nil_iff, List.length_take]
    rintro (h | h)
    · rcases h with h | h
      · exact h0 h
      · rw [h] at hk; simp at hk; exact h0 hk
    · omega)]
  dsimp only
  rw [List.drop_drop, show k + (e - k) = e by omega, List.drop_take]
theorem cutV_none {l : List UInt8} (h : ∀ _ : 0 < l.length, isDB l[0] = false) : cutV l = .tuple #[.int .i64 0, .string ⟨#[]⟩, .string ⟨#[]⟩, .bool false] := by
  unfold cutV cutP
  rw [(tw_take (Nat.zero_le _) (fun b hb => by simp at hb) h).1, if_pos (Or.inl (by simp))]
theorem cutV_long {l : List UInt8} (hk : 15 < l.length) (h1 : ∀ b ∈ l.take 16, isDB b = true) : cutV l = .tuple #[.int .i64 0, .string ⟨#[]⟩, .string ⟨#[]⟩, .bool false] := by
  unfold cutV cutP
  have := tw_long (p := isDB) (l := l) (k := 16) (by omega) h1
  rw [if_pos (Or.inr (by omega))]

theorem results_tmp4 {fn : Func} {t u v x : Tmp} (h : fn.results = #[.tmp t, .tmp u, .tmp v, .tmp x]) (tmps : Array Value) (P : Program) (w : World) :
    (results fn tmps).run P w = .ok (.tuple #[tmps.getD t undef, tmps.getD u undef, tmps.getD v undef, tmps.getD x undef]) w := by
  simp [results, h]

set_option maxRecDepth 100000 in
set_option maxHeartbeats 2000000 in
theorem cutPart_any (s : ByteArray) (w : World) (hs : s.size ≤ maxLen) : Calls Tryd.prog 59 #[.string s] w fun e w' => e = .returned (cutV s.data.toList) ∧ ∃ q, w' = w.drewN q := by
  have hlen : s.data.toList.length = s.size := by simp
  unfold maxLen at hs
  have HKEY : Hid (∀ k (h : k < s.size), s.data.toList[k]'(by omega) = s[k]) := fun k h => getT s k h _
  go_enter Tryd.func59, Tryd.ntmps59
  go_wp2
  go_loop [2, 6] (fun c i => ∃ k : Nat, k ≤ s.size ∧ k ≤ 15 ∧ i = .int .i64 k ∧ c = .int .i64 (valT (s.data.toList.take k) : Nat) ∧ Hid (∀ b ∈ s.data.toList.take k, isDB b = true)) (fun _ i => s.size - (intOf i).toNat)
  case atStart => exact ⟨0, Nat.zero_le _, by omega, rfl, by simp [valT], fun b hb => by simp at hb⟩
  case round =>
    obtain ⟨k, hk, hk15, rfl, rfl, HD⟩ := hrel
    have hvl : valT (s.data.toList.take k) < 1000000000000000 := by
      have h1 := valT_lt (s.data.toList.take k) (fun b hb => (isDB_iff b).1 (HD.out b hb))
      rw [List.length_take] at h1
      have h2 : 10 ^ (min k s.data.toList.length) ≤ 10 ^ 15 := Nat.pow_le_pow_right (by decide) (by omega)
      omega
    obtain ⟨N, hNN⟩ : ∃ N, N = valT (s.data.toList.take k) := ⟨_, rfl⟩
    rw [← hNN] at hvl ⊢
    by_cases hlt : k < s.size
    · have hbl : s[k].toNat < 256 := s[k].toNat_lt
      by_cases hd : 48 ≤ s[k].toNat ∧ s[k].toNat ≤ 57
      · have HD2 : Hid (∀ b ∈ s.data.toList.take (k + 1), isDB b = true) := tw_more (by omega) HD.out (by rw [HKEY.out k hlt]; exact (isDB_iff _).2 hd)
        have HV2 : Hid (valT (s.data.toList.take (k + 1)) = N * 10 + (s[k].toNat - 48)) := by
          show _ = _
          rw [valT_snoc _ k (by omega), HKEY.out k hlt, hNN]
        obtain ⟨hd1, hd2⟩ := hd
        have hdig := isDigit_yes (b := (s[k].toNat : Int)) w (by omega) (by omega)
        clear hNN
        by_cases h15 : k = 15
        · subst h15
          have HC : Hid (cutV s.data.toList = .tuple #[.int .i64 0, .string ⟨#[]⟩, .string ⟨#[]⟩, .bool false]) := cutV_long (by omega) HD2.out
          generalize hyyy : s[15].toNat = y at *
          go_wp2_with (go_at_call 88; refine hdig.mono ?_; clear hdig; rintro e w2 ⟨rfl, hw2⟩; have hw2 := hw2.symm; subst hw2)
          (try simp only [Exit.inBlock, Exit.then])
          refine bodyPost_ret (results_tmp4 rfl _ _ _) rfl ?_
          exact ⟨by rw [HC.out]; rfl, 0, rfl⟩
        · have h15i : ((k : Int) == 15) = false := by rw [beq_eq_false_iff_ne]; omega
          generalize hyyy : s[k].toNat = y at *
          go_wp2_with (go_at_call 88; refine hdig.mono ?_; clear hdig; rintro e w2 ⟨rfl, hw2⟩; have hw2 := hw2.symm; subst hw2)
          go_round
          case rel => exact ⟨k + 1, by omega, by omega, by go_num, by rw [HV2.out]; congr 1; omega, HD2.out⟩
          case measure => simp [intOf]; omega
      · have HE : Hid (∀ h : k < s.data.toList.length, isDB s.data.toList[k] = false) := fun h => by
          rw [HKEY.out k hlt]
          cases h7 : isDB s[k] with
          | false => rfl
          | true => exact absurd ((isDB_iff _).1 h7) hd
        have hdig := isDigit_no (b := (s[k].toNat : Int)) w (by omega)
        clear hd
        by_cases h0 : k = 0
        · subst h0
          have HC : Hid (cutV s.data.toList = .tuple #[.int .i64 0, .string ⟨#[]⟩, .string ⟨#[]⟩, .bool false]) := cutV_none HE.out
          go_wp2_with (go_at_call 88; refine hdig.mono ?_; clear hdig; rintro e w2 ⟨rfl, hw2⟩; have hw2 := hw2.symm; subst hw2)
          (try simp only [Exit.inBlock, Exit.then])
          refine bodyPost_ret (results_tmp4 rfl _ _ _) rfl ?_
          exact ⟨by rw [HC.out]; rfl, 0, rfl⟩
        · have h0i : ((k : Int) == 0) = false := by rw [beq_eq_false_iff_ne]; omega
          go_wp2_with (go_at_call 88; refine hdig.mono ?_; clear hdig; rintro e w2 ⟨rfl, hw2⟩; have hw2 := hw2.symm; subst hw2)
          go_loop [7] (fun i => ∃ e : Nat, k ≤ e ∧ e ≤ s.size ∧ i = .int .i64 e ∧ Hid (∀ b ∈ (s.data.toList.drop k).take (e - k), isDB b = false)) (fun i => s.size - (intOf i).toNat)
          case atStart => exact ⟨k, Nat.le_refl _, hk, rfl, fun b hb => by simp at hb⟩
          case round =>
            obtain ⟨e, hke, hes, rfl, HN⟩ := hrel
            by_cases hlt2 : e < s.size
            · have hbl2 : s[e].toNat < 256 := s[e].toNat_lt
              by_cases hd2 : 48 ≤ s[e].toNat ∧ s[e].toNat ≤ 57
              · have HC : Hid _ := cutV_some h0 hk15 (by omega) HD.out HE.out hke (by omega) HN.out (fun h => by rw [HKEY.out e hlt2]; exact (isDB_iff _).2 hd2)
                obtain ⟨hd3, hd4⟩ := hd2
                have hdig := isDigit_yes (b := (s[e].toNat : Int)) w (by omega) (by omega)
                generalize hyyy2 : s[e].toNat = y2 at *
                go_wp2_with (go_at_call 88; refine hdig.mono ?_; clear hdig; rintro e w2 ⟨rfl, hw2⟩; have hw2 := hw2.symm; subst hw2)
                go_quiet (fail)
                go_wp2
                (try simp only [Exit.inBlock, Exit.then])
                refine bodyPost_ret (results_tmp4 rfl _ _ _) rfl ?_
                exact ⟨by rw [HC.out, ext_list, ext_list, List.take_of_length_le (Nat.le_of_eq hlen)]; rfl, _, rfl⟩
              · have HN2 : Hid (∀ b ∈ (s.data.toList.drop k).take (e + 1 - k), isDB b = false) := fun b hb => by
                  rw [show e + 1 - k = (e - k) + 1 by omega] at hb
                  have h8 := tw_more (p := fun b => !isDB b) (l := s.data.toList.drop k) (k := e - k) (by simp; omega) (fun b hb => by simp [HN.out b hb]) (by
                    rw [List.getElem_drop]
                    have h9 : s.data.toList[k + (e - k)]'(by omega) = s[e] := by
                      rw [← HKEY.out e hlt2]
                      congr 1
                      omega
                    rw [h9]
                    cases h7 : isDB s[e] with
                    | false => rfl
                    | true => exact absurd ((isDB_iff _).1 h7) hd2) b hb
                  simpa using h8
                have hdig := isDigit_no (b := (s[e].toNat : Int)) w (by omega)
                generalize hyyy2 : s[e].toNat = y2 at *
                clear hd2
                go_wp2_with (go_at_call 88; refine hdig.mono ?_; clear hdig; rintro e w2 ⟨rfl, hw2⟩; have hw2 := hw2.symm; subst hw2)
                go_round
                case rel => exact ⟨e + 1, by omega, by omega, by go_num, HN2.out⟩
                case measure => simp [intOf]; omega
            · obtain rfl : e = s.size := by omega
              have HC : Hid _ := cutV_some h0 hk15 (by omega) HD.out HE.out hke (by omega) HN.out (fun h => by omega)
              go_wp2
              go_quiet (fail)
              go_wp2
              (try simp only [Exit.inBlock, Exit.then])
              refine bodyPost_ret (results_tmp4 rfl _ _ _) rfl ?_
              exact ⟨by rw [HC.out, ext_list, List.take_of_length_le (Nat.le_of_eq hlen), List.drop_of_length_le (Nat.le_of_eq hlen)]; rfl, _, rfl⟩
    · have HE : Hid (∀ h : k < s.data.toList.length, isDB s.data.toList[k] = false) := fun h => by omega
      by_cases h0 : k = 0
      · subst h0
        have HC : Hid (cutV s.data.toList = .tuple #[.int .i64 0, .string ⟨#[]⟩, .string ⟨#[]⟩, .bool false]) := cutV_none HE.out
        go_wp2
        (try simp only [Exit.inBlock, Exit.then])
        refine bodyPost_ret (results_tmp4 rfl _ _ _) rfl ?_
        exact ⟨by rw [HC.out]; rfl, 0, rfl⟩
      · have h0i : ((k : Int) == 0) = false := by rw [beq_eq_false_iff_ne]; omega
        go_wp2
        go_loop [7] (fun i => ∃ e : Nat, k ≤ e ∧ e ≤ s.size ∧ i = .int .i64 e ∧ Hid (∀ b ∈ (s.data.toList.drop k).take (e - k), isDB b = false)) (fun i => s.size - (intOf i).toNat)
        case atStart => exact ⟨k, Nat.le_refl _, hk, rfl, fun b hb => by simp at hb⟩
        case round =>
          obtain ⟨e, hke, hes, rfl, HN⟩ := hrel
          by_cases hlt2 : e < s.size
          · have hbl2 : s[e].toNat < 256 := s[e].toNat_lt
            by_cases hd2 : 48 ≤ s[e].toNat ∧ s[e].toNat ≤ 57
            · have HC : Hid _ := cutV_some h0 hk15 (by omega) HD.out HE.out hke (by omega) HN.out (fun h => by rw [HKEY.out e hlt2]; exact (isDB_iff _).2 hd2)
              obtain ⟨hd3, hd4⟩ := hd2
              have hdig := isDigit_yes (b := (s[e].toNat : Int)) w (by omega) (by omega)
              generalize hyyy2 : s[e].toNat = y2 at *
              go_wp2_with (go_at_call 88; refine hdig.mono ?_; clear hdig; rintro e w2 ⟨rfl, hw2⟩; have hw2 := hw2.symm; subst hw2)
              go_quiet (fail)
              go_wp2
              (try simp only [Exit.inBlock, Exit.then])
              refine bodyPost_ret (results_tmp4 rfl _ _ _) rfl ?_
              exact ⟨by rw [HC.out, ext_list, ext_list, List.take_of_length_le (Nat.le_of_eq hlen)]; rfl, _, rfl⟩
            · have HN2 : Hid (∀ b ∈ (s.data.toList.drop k).take (e + 1 - k), isDB b = false) := fun b hb => by
                rw [show e + 1 - k = (e - k) + 1 by omega] at hb
                have h8 := tw_more (p := fun b => !isDB b) (l := s.data.toList.drop k) (k := e - k) (by simp; omega) (fun b hb => by simp [HN.out b hb]) (by
                  rw [List.getElem_drop]
                  have h9 : s.data.toList[k + (e - k)]'(by omega) = s[e] := by
                    rw [← HKEY.out e hlt2]
                    congr 1
                    omega
                  rw [h9]
                  cases h7 : isDB s[e] with
                  | false => rfl
                  | true => exact absurd ((isDB_iff _).1 h7) hd2) b hb
                simpa using h8
              have hdig := isDigit_no (b := (s[e].toNat : Int)) w (by omega)
              generalize hyyy2 : s[e].toNat = y2 at *
              clear hd2
              go_wp2_with (go_at_call 88; refine hdig.mono ?_; clear hdig; rintro e w2 ⟨rfl, hw2⟩; have hw2 := hw2.symm; subst hw2)
              go_round
              case rel => exact ⟨e + 1, by omega, by omega, by go_num, HN2.out⟩
              case measure => simp [intOf]; omega
          · obtain rfl : e = s.size := by omega
            have HC : Hid _ := cutV_some h0 hk15 (by omega) HD.out HE.out hke (by omega) HN.out (fun h => by omega)
            go_wp2
            go_quiet (fail)
            go_wp2
            (try simp only [Exit.inBlock, Exit.then])
            refine bodyPost_ret (results_tmp4 rfl _ _ _) rfl ?_
            exact ⟨by rw [HC.out, ext_list, List.take_of_length_le (Nat.le_of_eq hlen), List.drop_of_length_le (Nat.le_of_eq hlen)]; rfl, _, rfl⟩
end Go.Proofs.YtmlcilalmhpmiaaDoor
