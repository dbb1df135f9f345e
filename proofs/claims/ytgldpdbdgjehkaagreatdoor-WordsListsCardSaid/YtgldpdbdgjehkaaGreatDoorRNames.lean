/- The reference's Name and Text. -/
import Derived.Test.YtgldpdbdgjehkaaGreatDoorTexts
namespace Go.Proofs.YtgldpdbdgjehkaaGreatDoor
open Go.RowKit

set_option maxHeartbeats 1000000 in
theorem rtext_any (s : ByteArray) (w : World) (hs : s.size ≤ maxLen) : Calls Tryz.prog 18 #[.string s] w fun e w' => e = .returned (.bool (textB s.data.toList)) ∧ w = w' := by
  unfold maxLen at hs
  go_enter Tryz.func18, Tryz.ntmps18
  go_wp2
  go_loop [3] (fun i => ∃ k : Nat, k ≤ s.size ∧ i = .int .i64 k ∧ allP isPrintable (s.data.toList.take k) = true) (fun i => s.size - (intOf i).toNat)
  case atStart => exact ⟨0, Nat.zero_le _, rfl, rfl⟩
  case round =>
    obtain ⟨k, hk, rfl, hall⟩ := hrel
    have HA := Lib.hid hall; clear hall
    by_cases hlt : k < s.size
    · have hsn : allP isPrintable (s.data.toList.take (k + 1)) = (allP isPrintable (s.data.toList.take k) && isPrintable (s[k].toNat : Int)) := by rw [take_snoc s k hlt, allP_snoc]
      have hno := allP_take isPrintable s k hlt
      have HSN := Lib.hid hsn; have HNO := Lib.hid hno; clear hsn hno
      by_cases h1 : (s[k].toNat : Int) < 32
      · have hp : isPrintable (s[k].toNat : Int) = false := by simp [isPrintable]; omega
        have HP := Lib.hid hp; clear hp
        go_wp2
        go_ret
        exact ⟨ret_bool (by unfold textB; rw [HNO.out HP.out, Bool.and_false]), rfl⟩
      · by_cases h2 : 126 < (s[k].toNat : Int)
        · have hp : isPrintable (s[k].toNat : Int) = false := by simp [isPrintable]; omega
          have HP := Lib.hid hp; clear hp
          go_wp2
          go_ret
          exact ⟨ret_bool (by unfold textB; rw [HNO.out HP.out, Bool.and_false]), rfl⟩
        · have hp : isPrintable (s[k].toNat : Int) = true := by simp [isPrintable]; omega
          have HP := Lib.hid hp; clear hp
          go_wp2
          go_round
          case rel => exact ⟨k + 1, by omega, by go_num, by rw [HSN.out, HA.out, HP.out]; rfl⟩
          case measure => simp [intOf]; omega
    · go_wp2
      go_ret
      have : k = s.size := by omega
      subst this
      have ha := HA.out
      rw [take_all] at ha
      exact ⟨ret_bool (by unfold textB; rw [ha, Bool.and_true, size_list]; exact decide_eq_decide.2 (by omega)), rfl⟩

set_option maxHeartbeats 2000000 in
theorem rname_any (s : ByteArray) (w : World) (hs : s.size ≤ maxLen) : Calls Tryz.prog 16 #[.string s] w fun e w' => e = .returned (.bool (nameB s.data.toList)) ∧ w = w' := by
  unfold maxLen at hs
  by_cases h0 : s.size = 0
  · obtain rfl : s = ⟨#[]⟩ := by obtain ⟨⟨l⟩⟩ := s; cases l with | nil => rfl | cons a b => exact absurd h0 (Nat.succ_ne_zero _)
    clear hs h0
    go_enter Tryz.func16, Tryz.ntmps16
    go_wp2
    go_ret
    exact ⟨rfl, rfl⟩
  · have hp : 0 < s.size := by omega
    obtain ⟨b, r, hl⟩ : ∃ b r, s.data.toList = b :: r := by
      cases h : s.data.toList with
      | nil => exact absurd (by rw [← size_list, h]; rfl) h0
      | cons b r => exact ⟨b, r, rfl⟩
    have hb : s[0] = b := by
      have : s.data.toList[0]'(by rw [size_list]; exact hp) = b := by simp [hl]
      exact this
    have hr : r.length + 1 = s.size := by rw [← size_list, hl]; rfl
    have cl : ∀ W, Calls Tryz.prog 47 #[.int .u8 (s[0].toNat : Int)] W fun e w' => e = .returned (.bool (isLetter (b.toNat : Int))) ∧ W = w' := fun W => by have := rletter_any (s[0].toNat : Int) W; rw [hb] at this; rw [hb]; exact this
    have hn : nameB s.data.toList = (decide (s.size ≤ 16) && isLetter (b.toNat : Int) && allP isNameByte s.data.toList) := by rw [hl]; simp only [nameB]; rw [hr]
    rw [hn]
    generalize isLetter (b.toNat : Int) = x at cl ⊢
    have CL := Lib.hid cl; clear cl hn hr hb hl
    by_cases h16 : s.size ≤ 16
    · cases x
      · go_enter Tryz.func16, Tryz.ntmps16
        go_wp2_with (go_at_call 47; refine (CL.out _).mono ?_; rintro e w' ⟨rfl, rfl⟩)
        go_ret
        exact ⟨ret_bool (by simp), rfl⟩
      · have hd : decide (s.size ≤ 16) = true := by simp [h16]
        rw [hd, Bool.true_and, Bool.true_and]
        clear hd
        go_enter Tryz.func16, Tryz.ntmps16
        go_wp2_with (go_at_call 47; refine (CL.out _).mono ?_; rintro e w' ⟨rfl, rfl⟩)
        go_loop [3] (fun i => ∃ k : Nat, k ≤ s.size ∧ i = .int .i64 k ∧ allP isNameByte (s.data.toList.take k) = true) (fun i => s.size - (intOf i).toNat)
        case atStart => exact ⟨0, Nat.zero_le _, rfl, rfl⟩
        case round =>
          obtain ⟨k, hk, rfl, hall⟩ := hrel
          have HA := Lib.hid hall; clear hall CL
          by_cases hlt : k < s.size
          · have hsn : allP isNameByte (s.data.toList.take (k + 1)) = (allP isNameByte (s.data.toList.take k) && isNameByte (s[k].toNat : Int)) := by rw [take_snoc s k hlt, allP_snoc]
            have hno := allP_take isNameByte s k hlt
            have c1 := fun W => rletter_any (s[k].toNat : Int) W
            have c2 := fun W => rdigit_any (s[k].toNat : Int) W
            have hnb : isNameByte (s[k].toNat : Int) = (isLetter (s[k].toNat : Int) || isDigit (s[k].toNat : Int) || ((s[k].toNat : Int) == 95)) := rfl
            generalize isNameByte (s[k].toNat : Int) = nb at hsn hno hnb
            generalize isLetter (s[k].toNat : Int) = a at c1 hnb
            generalize isDigit (s[k].toNat : Int) = d at c2 hnb
            have HSN := Lib.hid hsn; have HNO := Lib.hid hno; have C1 := Lib.hid c1; have C2 := Lib.hid c2; clear hsn hno c1 c2
            have fin : nb = true → Hid (allP isNameByte (s.data.toList.take (k + 1)) = true) := fun h => Lib.hid (by rw [HSN.out, HA.out, h]; rfl)
            cases a
            · cases d
              · by_cases h95 : (s[k].toNat : Int) = 95
                · have hne : ((s[k].toNat : Int) != 95) = false := by simp [h95]
                  have F := fin (by rw [hnb, h95]; rfl)
                  clear fin hnb h95
                  go_wp2_with (first | (go_at_call 47; refine (C1.out _).mono ?_; rintro e w' ⟨rfl, rfl⟩) | (go_at_call 48; refine (C2.out _).mono ?_; rintro e w' ⟨rfl, rfl⟩))
                  go_round
                  case rel => exact ⟨k + 1, by omega, by go_num, F.out⟩
                  case measure => simp [intOf]; omega
                · have hne : ((s[k].toNat : Int) != 95) = true := by simp; omega
                  have F := HNO.out (by rw [hnb]; simp; omega)
                  have HF := Lib.hid F
                  clear fin hnb F h95
                  go_wp2_with (first | (go_at_call 47; refine (C1.out _).mono ?_; rintro e w' ⟨rfl, rfl⟩) | (go_at_call 48; refine (C2.out _).mono ?_; rintro e w' ⟨rfl, rfl⟩))
                  go_ret
                  exact ⟨ret_bool HF.out.symm, rfl⟩
              · have F := fin (by rw [hnb]; rfl)
                clear fin hnb
                go_wp2_with (first | (go_at_call 47; refine (C1.out _).mono ?_; rintro e w' ⟨rfl, rfl⟩) | (go_at_call 48; refine (C2.out _).mono ?_; rintro e w' ⟨rfl, rfl⟩))
                go_round
                case rel => exact ⟨k + 1, by omega, by go_num, F.out⟩
                case measure => simp [intOf]; omega
            · have F := fin (by rw [hnb]; rfl)
              clear fin hnb
              go_wp2_with (first | (go_at_call 47; refine (C1.out _).mono ?_; rintro e w' ⟨rfl, rfl⟩) | (go_at_call 48; refine (C2.out _).mono ?_; rintro e w' ⟨rfl, rfl⟩))
              go_round
              case rel => exact ⟨k + 1, by omega, by go_num, F.out⟩
              case measure => simp [intOf]; omega
          · go_wp2
            go_ret
            have : k = s.size := by omega
            subst this
            have ha := HA.out
            rw [take_all] at ha
            exact ⟨ret_bool ha.symm, rfl⟩
    · have h16' : (16 : Int) < s.size := by omega
      go_enter Tryz.func16, Tryz.ntmps16
      go_wp2_with fail
      go_ret
      exact ⟨ret_bool (by simp [h16]), rfl⟩
end Go.Proofs.YtgldpdbdgjehkaaGreatDoor
