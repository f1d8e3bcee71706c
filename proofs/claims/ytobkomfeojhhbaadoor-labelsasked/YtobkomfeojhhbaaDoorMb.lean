/- The document's quoted; are two lists of texts alike? -/
import Derived.Test.YtobkomfeojhhbaaDoorLz
import Derived.Test.YtobkomfeojhhbaaDoorLf
import Derived.BigQuiet
namespace Go.Proofs.YtobkomfeojhhbaaDoor
open Go.RowKit Go.Maps

set_option maxRecDepth 100000 in
set_option maxHeartbeats 3000000 in
theorem refQuoted_any (s : ByteArray) (w : World) (hs : s.size ≤ 100000000) :
    Calls Tryd.prog 55 #[.string s] w fun e w' => ∃ o : ByteArray, e = .returned (.string o) ∧ o.data.toList = quoteL s.data.toList ∧ w' = w := by
  go_enter Tryd.func55, Tryd.ntmps55
  go_wp2
  go_loopw [3, 4] (fun so i wr => ∃ (k : Nat) (o : ByteArray), k ≤ s.size ∧ i = .int .i64 k ∧ so = .string o ∧ wr = w ∧ Hid (o.data.toList = [34] ++ (s.data.toList.take k).flatMap esc)) (fun _ i _ => s.size - (intOf i).toNat)
  case atStart => exact ⟨0, ⟨#[34]⟩, Nat.zero_le _, rfl, rfl, rfl, by show _ = _; simp⟩
  case round =>
    obtain ⟨k, o, hk, rfl, rfl, rfl, ho⟩ := hrel
    have hos : o.size ≤ 1000000000 := by
      have h1 := congrArg List.length ho.out
      have h2 := escs_length (s.data.toList.take k)
      have h3 : (s.data.toList.take k).length ≤ k := by rw [List.length_take]; omega
      rw [List.length_append, List.length_singleton, Array.length_toList] at h1
      show o.data.size ≤ 1000000000
      omega
    by_cases hlt : k < s.size
    · have hlt' : k < s.data.toList.length := by rw [Array.length_toList]; exact hlt
      have HE : Hid ((s.data.toList.take (k + 1)).flatMap esc = (s.data.toList.take k).flatMap esc ++ esc s[k]) := escs_succ _ k hlt'
      have hcl := s[k].toNat_lt
      have HX : Hid ((s.extract k (k + 1)).data.toList = [s[k]]) := by
        show _ = _
        rw [ByteArray.data_extract, Array.toList_extract, List.extract_eq_take_drop, List.drop_eq_getElem_cons hlt', Nat.add_sub_cancel_left]
        rfl
      obtain ⟨c, hc⟩ : ∃ c, c = s[k] := ⟨_, rfl⟩
      rw [← hc] at HE hcl HX
      have hcN : s[k].toNat = c.toNat := by rw [hc]
      clear hc
      have HF : Hid (∀ x : ByteArray, x.data.toList = esc c → (o ++ x).data.toList = [34] ++ (s.data.toList.take (k + 1)).flatMap esc) := fun x hx => by
        rw [HE.out, ← List.append_assoc, ← ho.out, ← hx]
        simp
      clear HE ho
      have hkl : (k : Int) < (s.size : Int) := by omega
      by_cases h1 : c = 34
      · subst h1
        have hcN' : s[k].toNat = 34 := hcN
        clear hcN hcl
        go_wp2
        go_roundw
        case rel => exact ⟨k + 1, _, by omega, by go_num, rfl, by trivial, HF.out _ (by decide)⟩
        case measure => simp [intOf]; omega
      · by_cases h2 : c = 92
        · subst h2
          have hcN' : s[k].toNat = 92 := hcN
          clear hcN hcl
          go_wp2
          go_roundw
          case rel => exact ⟨k + 1, _, by omega, by go_num, rfl, by trivial, HF.out _ (by decide)⟩
          case measure => simp [intOf]; omega
        · by_cases h3 : c = 10
          · subst h3
            have hcN' : s[k].toNat = 10 := hcN
            clear hcN hcl
            go_wp2
            go_roundw
            case rel => exact ⟨k + 1, _, by omega, by go_num, rfl, by trivial, HF.out _ (by decide)⟩
            case measure => simp [intOf]; omega
          · have HE' : Hid (esc c = [c]) := esc_plain (fun e => e.elim h1 h2) h3
            have n1 : ¬ (c.toNat : Int) = 34 := fun e => h1 (UInt8.toNat_inj.1 (by simp; omega))
            have n2 : ¬ (c.toNat : Int) = 92 := fun e => h2 (UInt8.toNat_inj.1 (by simp; omega))
            have n3 : ¬ (c.toNat : Int) = 10 := fun e => h3 (UInt8.toNat_inj.1 (by simp; omega))
            have HG : Hid ((o ++ s.extract k (k + 1)).data.toList = [34] ++ (s.data.toList.take (k + 1)).flatMap esc) := HF.out _ (by rw [HX.out, HE'.out])
            clear h1 h2 h3 HF HX HE'
            generalize c.toNat = cN at *
            go_wp2
            go_roundw
            case rel => exact ⟨k + 1, _, by omega, by go_num, rfl, by trivial, HG⟩
            case measure => simp [intOf]; omega
    · have HG : Hid ((o ++ ⟨#[34]⟩).data.toList = quoteL s.data.toList) := by
        show _ = _
        have h1 := ho.out
        rw [List.take_of_length_le (by rw [Array.length_toList]; show s.size ≤ k; omega)] at h1
        unfold quoteL
        rw [← h1]
        simp
      clear ho
      go_wp2
      go_ret
      exact ⟨_, rfl, HG.out, rfl⟩


end Go.Proofs.YtobkomfeojhhbaaDoor
