/- Package words: Name, Text, bare, Quote and Unquote: what each returns. -/
import Derived.Test.YtgldpdbdgjehkaaGreatDoorInts
namespace Go.Proofs.YtgldpdbdgjehkaaGreatDoor
open Go.RowKit

def textB (l : List UInt8) : Bool := decide (l.length ≤ 200) && allP isPrintable l
theorem printAll (s : ByteArray) (w : World) (hs : s.size ≤ maxLen) : Calls Tryz.prog 45 #[.string s, .func (.func 49) #[] #[]] w fun e w' => e = .returned (.bool (allP isPrintable s.data.toList)) ∧ w = w' :=
  all_any 49 isPrintable (fun _ _ => by kernel_rfl) printable_any s w hs
theorem nameAll (s : ByteArray) (w : World) (hs : s.size ≤ maxLen) : Calls Tryz.prog 45 #[.string s, .func (.func 46) #[] #[]] w fun e w' => e = .returned (.bool (allP isNameByte s.data.toList)) ∧ w = w' :=
  all_any 46 isNameByte (fun _ _ => by kernel_rfl) nameByte_any s w hs
theorem size_list (s : ByteArray) : s.data.toList.length = s.size := by simp
theorem text_any (s : ByteArray) (w : World) (hs : s.size ≤ maxLen) : Calls Tryz.prog 17 #[.string s] w fun e w' => e = .returned (.bool (textB s.data.toList)) ∧ w = w' := by
  have c := printAll s
  have C := Lib.hid c; clear c
  unfold textB; rw [size_list]
  have HS := Lib.hid hs
  by_cases h : s.size ≤ 200
  · rw [decide_eq_true h, Bool.true_and]
    go_enter Tryz.func17, Tryz.ntmps17
    go_wp2_with (go_at_call 45; refine (C.out _ HS.out).mono ?_; rintro e w' ⟨rfl, rfl⟩)
    go_ret
    exact ⟨rfl, rfl⟩
  · rw [decide_eq_false h, Bool.false_and]
    go_enter Tryz.func17, Tryz.ntmps17
    go_wp2_with (go_at_call 45; refine (C.out _ HS.out).mono ?_; rintro e w' ⟨rfl, rfl⟩)
    go_ret
    exact ⟨rfl, rfl⟩

/-- Name(s). -/
def nameB : List UInt8 → Bool
  | [] => false
  | c :: r => decide (r.length + 1 ≤ 16) && isLetter c.toNat && allP isNameByte (c :: r)
set_option maxHeartbeats 400000 in
theorem name_any (s : ByteArray) (w : World) (hs : s.size ≤ maxLen) : Calls Tryz.prog 15 #[.string s] w fun e w' => e = .returned (.bool (nameB s.data.toList)) ∧ w = w' := by
  have c := nameAll s
  have HS := Lib.hid hs; clear hs
  by_cases h0 : s.size = 0
  · obtain rfl : s = ⟨#[]⟩ := by obtain ⟨⟨l⟩⟩ := s; cases l with | nil => rfl | cons a b => exact absurd h0 (Nat.succ_ne_zero _)
    clear c h0 HS
    go_enter Tryz.func15, Tryz.ntmps15
    go_wp2_with fail
    go_ret
    exact ⟨rfl, rfl⟩
  · have hp : 0 < s.size := by omega
    obtain ⟨b, r, hl⟩ : ∃ b r, s.data.toList = b :: r := by
      cases h : s.data.toList with
      | nil => exact absurd (by rw [← size_list, h]; rfl) h0
      | cons b r => exact ⟨b, r, rfl⟩
    have hb : s[0] = b := by
      have : s.data.toList[0]'(by rw [size_list]; exact hp) = b := by simp [hl]
      exact this
    have hr : r.length + 1 = s.size := by rw [← size_list, hl]; rfl
    have e1 : s.toList.isEmpty = false := by rw [Lib.toList_data, hl]; rfl
    have e2 : ¬ s.toList = [] := by rw [Lib.toList_data, hl]; simp
    have cl : ∀ W, Calls Tryz.prog 44 #[.int .u8 (s[0].toNat : Int)] W fun e w' => e = .returned (.bool (isLetter (b.toNat : Int))) ∧ W = w' := fun W => by have := letter_any (s[0].toNat : Int) W; rw [hb] at this; rw [hb]; exact this
    have hn : nameB s.data.toList = (decide (s.size ≤ 16) && isLetter (b.toNat : Int) && allP isNameByte s.data.toList) := by rw [hl]; simp only [nameB]; rw [hr]
    rw [hn]
    generalize isLetter (b.toNat : Int) = x at cl ⊢
    have CL := Lib.hid cl; have C := Lib.hid c; clear cl c hn hr hb hl
    by_cases h16 : s.size ≤ 16 <;> cases x
    all_goals
      go_enter Tryz.func15, Tryz.ntmps15
      go_wp2_with (first | (go_at_call 44; refine (CL.out _).mono ?_; rintro e w' ⟨rfl, rfl⟩) | (go_at_call 45; refine (C.out _ HS.out).mono ?_; rintro e w' ⟨rfl, rfl⟩))
      go_ret
      exact ⟨ret_bool (by simp [h16]), rfl⟩
end Go.Proofs.YtgldpdbdgjehkaaGreatDoor
