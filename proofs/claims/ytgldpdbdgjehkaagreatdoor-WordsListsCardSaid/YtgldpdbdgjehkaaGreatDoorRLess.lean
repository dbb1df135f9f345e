/- The reference's less and number. -/
import Derived.Test.YtgldpdbdgjehkaaGreatDoorRInt
namespace Go.Proofs.YtgldpdbdgjehkaaGreatDoor
open Go.RowKit

theorem rless_any (a b : ByteArray) (w : World) : Calls Tryz.prog 60 #[.string a, .string b] w fun e w' => e = .returned (.bool (beforeB a.data.toList b.data.toList)) ∧ w = w' := by
  by_cases h1 : a.size < b.size
  · go_enter Tryz.func60, Tryz.ntmps60
    go_wp2
    go_ret
    exact ⟨ret_bool (by simp [beforeB, h1]), rfl⟩
  · by_cases h2 : a.size = b.size
    · have h1' : decide ((a.size : Int) < b.size) = false := by simp; omega
      have h2' : ((a.size : Int) == b.size) = true := by simp [h2]
      have H2 := Lib.hid h2; clear h2
      go_enter Tryz.func60, Tryz.ntmps60
      go_wp2
      go_ret
      exact ⟨ret_bool (by simp [beforeB, h1, H2.out, Lib.toList_data]), rfl⟩
    · have h1' : decide ((a.size : Int) < b.size) = false := by simp; omega
      have h2' : ((a.size : Int) == b.size) = false := by simp; omega
      go_enter Tryz.func60, Tryz.ntmps60
      go_wp2
      go_ret
      exact ⟨ret_bool (by simp [beforeB, h1, h2]), rfl⟩
theorem natB_no {l : List UInt8} (h : decB l = false) : natB l = false := by
  cases hn : natB l with
  | false => rfl
  | true => rw [natB_dec hn] at h; cases h
theorem rnumber_any (s : ByteArray) (w : World) (hs : s.size ≤ maxLen) : Calls Tryz.prog 83 #[.string s] w fun e w' => e = .returned (.bool (natB s.data.toList)) ∧ w = w' := by
  have cw := fun W => rwhole_any s W hs
  cases hd : decB s.data.toList
  · rw [hd] at cw
    have hn := natB_no hd
    have CW := Lib.hid cw; have HN := Lib.hid hn; clear cw hn hd
    go_enter Tryz.func83, Tryz.ntmps83
    go_wp2_with (go_at_call 52; refine (CW.out _).mono ?_; rintro e w' ⟨rfl, rfl⟩)
    go_ret
    exact ⟨ret_bool HN.out.symm, rfl⟩
  · rw [hd] at cw
    obtain ⟨b, r, hl⟩ : ∃ b r, s.data.toList = b :: r := by
      cases h : s.data.toList with
      | nil => rw [h] at hd; cases hd
      | cons b r => exact ⟨b, r, rfl⟩
    have hp : 0 < s.size := by rw [← size_list, hl]; exact Nat.succ_pos _
    have hb : s[0] = b := by
      have : s.data.toList[0]'(by rw [size_list]; exact hp) = b := by simp [hl]
      exact this
    by_cases h45 : b = 45
    · have hn : natB s.data.toList = false := by
        rw [hl, h45]; cases hn : natB (45 :: r) with
        | false => rfl
        | true => exact absurd (natB_cons hn).1.1 (by decide)
      have h4 : ((s[0].toNat : Int) != 45) = false := by rw [hb, h45]; rfl
      have CW := Lib.hid cw; have HN := Lib.hid hn; clear cw hn hd hb hl h45
      go_enter Tryz.func83, Tryz.ntmps83
      go_wp2_with (go_at_call 52; refine (CW.out _).mono ?_; rintro e w' ⟨rfl, rfl⟩)
      go_ret
      exact ⟨ret_bool HN.out.symm, rfl⟩
    · have hn : natB s.data.toList = true := by rw [hl, decB_pos b r h45] at hd; rw [hl]; exact hd
      have h4 : ((s[0].toNat : Int) != 45) = true := by
        rw [hb, bne_iff_ne]; intro e; exact h45 (UInt8.toNat_inj.1 (by show b.toNat = 45; omega))
      have CW := Lib.hid cw; have HN := Lib.hid hn; clear cw hn hd hb hl h45
      go_enter Tryz.func83, Tryz.ntmps83
      go_wp2_with (go_at_call 52; refine (CW.out _).mono ?_; rintro e w' ⟨rfl, rfl⟩)
      go_ret
      exact ⟨ret_bool HN.out.symm, rfl⟩
end Go.Proofs.YtgldpdbdgjehkaaGreatDoor
