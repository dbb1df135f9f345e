/- The reference's whole. -/
import Derived.Test.YtgldpdbdgjehkaaGreatDoorRDigits
namespace Go.Proofs.YtgldpdbdgjehkaaGreatDoor
open Go.RowKit

theorem allP_take' (p : Int → Bool) (l : List UInt8) (k : Nat) (h : k < l.length) (hf : p (l[k].toNat : Int) = false) : allP p l = false := by
  unfold allP; rw [List.all_eq_false]
  exact ⟨l[k], List.getElem_mem h, by rw [hf]; decide⟩
theorem allP_next (p : Int → Bool) (l : List UInt8) (k : Nat) (h : k < l.length) : allP p (l.take (k + 1)) = (allP p (l.take k) && p (l[k].toNat : Int)) := by
  rw [List.take_succ_eq_append_getElem h, allP_snoc]
theorem natB_bad {l : List UInt8} (h : allP isDigit l = false) : natB l = false := by
  cases l with
  | nil => rfl
  | cons c r => rw [natB, h, Bool.and_false]
theorem natB_one (l : List UInt8) (x : UInt8) (h : l = [x]) (ha : allP isDigit l = true) : natB l = true := by
  subst h; rw [natB, ha]; rfl
theorem eq48 (x : UInt8) : ((x.toNat : Int) == 48) = (x == 48) := by
  by_cases h : x = 48
  · subst h; rfl
  · have h' : ¬ (x.toNat : Int) = 48 := fun e => h (UInt8.toNat_inj.1 (by show x.toNat = 48; omega))
    rw [beq_eq_false_iff_ne.2 h, beq_eq_false_iff_ne.2 h']
theorem natB_more (l : List UInt8) (x : UInt8) (r : List UInt8) (h : l = x :: r) (hr : r ≠ []) (ha : allP isDigit l = true) : natB l = !(x == 48) := by
  subst h
  rw [natB, ha]
  cases r with
  | nil => exact absurd rfl hr
  | cons y r => simp [bne]

set_option maxHeartbeats 2000000 in
theorem whole_0 (s : ByteArray) (w : World) (hs : s.size ≤ maxLen) (h0 : 0 < s.size) (h45 : ((s[0].toNat : Int) == 45) = false) :
    Calls Tryz.prog 52 #[.string s] w fun e w' => e = .returned (.bool (natB (s.data.toList.drop 0) && !(s.data.toList == [45, 48]))) ∧ w = w' := by
  unfold maxLen at hs
  obtain ⟨D, hD⟩ : ∃ D, s.data.toList.drop 0 = D := ⟨_, rfl⟩
  have hDl : D.length + 0 = s.size := by rw [← hD, List.length_drop, size_list]; omega
  have hDk : ∀ (k : Nat) (h : k < D.length) (h' : 0 + k < s.size), s[0 + k] = D[k] := by
    intro k h h'
    subst hD
    rw [List.getElem_drop]; rfl
  have HDK := Lib.hid hDk; clear hDk
  rw [hD]
  obtain ⟨z, hz⟩ : ∃ z, (s.data.toList == [45, 48]) = z := ⟨_, rfl⟩
  have hz' : (s.toList == [45, 48]) = z := by rw [Lib.toList_data]; exact hz
  rw [hz]
  clear hz hD
  go_enter Tryz.func52, Tryz.ntmps52
  go_wp2_with fail
  go_loop [4] (fun i => ∃ k : Nat, k ≤ D.length ∧ i = .int .i64 ((0 + k : Nat) : Int) ∧ allP isDigit (D.take k) = true) (fun i => s.size - (intOf i).toNat)
  case atStart => exact ⟨0, Nat.zero_le _, rfl, rfl⟩
  case round =>
    obtain ⟨k, hk, rfl, hall⟩ := hrel
    have HA := Lib.hid hall; clear hall
    by_cases hlt : k < D.length
    · have hl2 : 0 + k < s.size := by omega
      have c1 := fun W => rdigit_any (s[0 + k].toNat : Int) W
      have hsn := allP_next isDigit D k hlt
      have hno := allP_take' isDigit D k hlt
      have e := HDK.out k hlt hl2
      rw [← e] at hsn hno
      generalize isDigit (s[0 + k].toNat : Int) = d at c1 hsn hno
      have C1 := Lib.hid c1; have HSN := Lib.hid hsn; clear c1 hsn e
      obtain ⟨m, hm⟩ : ∃ m : Nat, 0 + k = m := ⟨_, rfl⟩
      simp only [hm] at C1 hl2 ⊢
      cases d
      · have HNO := Lib.hid (hno rfl); clear hno
        go_wp2_with (go_at_call 48; refine (C1.out _).mono ?_; rintro e w' ⟨rfl, rfl⟩)
        go_ret
        exact ⟨ret_bool (by rw [natB_bad HNO.out]; rfl), rfl⟩
      · clear hno
        go_wp2_with (go_at_call 48; refine (C1.out _).mono ?_; rintro e w' ⟨rfl, rfl⟩)
        go_round
        case rel => exact ⟨k + 1, by omega, by rw [← Nat.add_assoc, hm]; go_num, by rw [HSN.out, HA.out]; rfl⟩
        case measure => simp [intOf]; omega
    · obtain rfl : k = D.length := by omega
      have ha := HA.out
      rw [List.take_length] at ha
      have hsz : 0 + D.length = s.size := by omega
      rw [hsz]
      rcases hDD : D with _ | ⟨x, _ | ⟨y, q⟩⟩
      · have hz0 : s.size = 0 := by rw [← hsz, hDD]; rfl
        have hz1 : ((s.size : Int) == 0) = true := beq_iff_eq.2 (by omega)
        have HDD := Lib.hid hDD
        clear HA HDK hDl hsz ha hDD
        go_wp2_with fail
        go_ret
        exact ⟨ret_bool (by rw [HDD.out]; rfl), rfl⟩
      · have hlen : 1 + 0 = s.size := by rw [← hsz, hDD]; rfl
        have hz1 : ((s.size : Int) == 0) = false := beq_eq_false_iff_ne.2 (by omega)
        have hl2 : 0 < s.size := by omega
        have hn : natB D = true := natB_one D x hDD ha
        have hl3 : ¬ (0 : Int) + 1 < s.size := by omega
        have HN := Lib.hid hn
        clear HA HDK hDl hsz ha hDD hn
        by_cases h48 : ((s[0].toNat : Int) == 48) = true
        · go_wp2_with fail
          go_ret
          exact ⟨ret_bool (by rw [HN.out, Bool.true_and]), rfl⟩
        · have h48' : ((s[0].toNat : Int) == 48) = false := by simpa using h48
          clear h48
          go_wp2_with fail
          go_ret
          exact ⟨ret_bool (by rw [HN.out, Bool.true_and]), rfl⟩
      · have hlen : q.length + 2 + 0 = s.size := by rw [← hsz, hDD, List.length_cons, List.length_cons]; omega
        have hz1 : ((s.size : Int) == 0) = false := beq_eq_false_iff_ne.2 (by omega)
        have hl2 : 0 < s.size := by omega
        have e := HDK.out 0 (by rw [hDD]; exact Nat.succ_pos _) (by omega)
        have hx : s[0] = x := by rw [show s[0] = s[0 + 0] from rfl, e]; simp [hDD]
        have hn : natB D = !(x == 48) := natB_more D x (y :: q) hDD (by simp) ha
        have hl3 : (0 : Int) + 1 < s.size := by omega
        have hx8 : ((s[0].toNat : Int) == 48) = (x == 48) := by rw [hx]; exact eq48 x
        generalize (x == 48) = t at hx8 hn
        have HN := Lib.hid hn
        clear HA HDK hDl hsz ha hDD hn e hx
        cases t
        · go_wp2_with fail
          go_ret
          exact ⟨ret_bool (by rw [HN.out]; rfl), rfl⟩
        · go_wp2_with fail
          go_ret
          exact ⟨ret_bool (by rw [HN.out]; rfl), rfl⟩

set_option maxHeartbeats 2000000 in
theorem whole_1 (s : ByteArray) (w : World) (hs : s.size ≤ maxLen) (h0 : 0 < s.size) (h45 : ((s[0].toNat : Int) == 45) = true) :
    Calls Tryz.prog 52 #[.string s] w fun e w' => e = .returned (.bool (natB (s.data.toList.drop 1) && !(s.data.toList == [45, 48]))) ∧ w = w' := by
  unfold maxLen at hs
  obtain ⟨D, hD⟩ : ∃ D, s.data.toList.drop 1 = D := ⟨_, rfl⟩
  have hDl : D.length + 1 = s.size := by rw [← hD, List.length_drop, size_list]; omega
  have hDk : ∀ (k : Nat) (h : k < D.length) (h' : 1 + k < s.size), s[1 + k] = D[k] := by
    intro k h h'
    subst hD
    rw [List.getElem_drop]; rfl
  have HDK := Lib.hid hDk; clear hDk
  rw [hD]
  obtain ⟨z, hz⟩ : ∃ z, (s.data.toList == [45, 48]) = z := ⟨_, rfl⟩
  have hz' : (s.toList == [45, 48]) = z := by rw [Lib.toList_data]; exact hz
  rw [hz]
  clear hz hD
  go_enter Tryz.func52, Tryz.ntmps52
  go_wp2_with fail
  go_loop [4] (fun i => ∃ k : Nat, k ≤ D.length ∧ i = .int .i64 ((1 + k : Nat) : Int) ∧ allP isDigit (D.take k) = true) (fun i => s.size - (intOf i).toNat)
  case atStart => exact ⟨0, Nat.zero_le _, rfl, rfl⟩
  case round =>
    obtain ⟨k, hk, rfl, hall⟩ := hrel
    have HA := Lib.hid hall; clear hall
    by_cases hlt : k < D.length
    · have hl2 : 1 + k < s.size := by omega
      have c1 := fun W => rdigit_any (s[1 + k].toNat : Int) W
      have hsn := allP_next isDigit D k hlt
      have hno := allP_take' isDigit D k hlt
      have e := HDK.out k hlt hl2
      rw [← e] at hsn hno
      generalize isDigit (s[1 + k].toNat : Int) = d at c1 hsn hno
      have C1 := Lib.hid c1; have HSN := Lib.hid hsn; clear c1 hsn e
      obtain ⟨m, hm⟩ : ∃ m : Nat, 1 + k = m := ⟨_, rfl⟩
      simp only [hm] at C1 hl2 ⊢
      cases d
      · have HNO := Lib.hid (hno rfl); clear hno
        go_wp2_with (go_at_call 48; refine (C1.out _).mono ?_; rintro e w' ⟨rfl, rfl⟩)
        go_ret
        exact ⟨ret_bool (by rw [natB_bad HNO.out]; rfl), rfl⟩
      · clear hno
        go_wp2_with (go_at_call 48; refine (C1.out _).mono ?_; rintro e w' ⟨rfl, rfl⟩)
        go_round
        case rel => exact ⟨k + 1, by omega, by rw [← Nat.add_assoc, hm]; go_num, by rw [HSN.out, HA.out]; rfl⟩
        case measure => simp [intOf]; omega
    · obtain rfl : k = D.length := by omega
      have ha := HA.out
      rw [List.take_length] at ha
      have hsz : 1 + D.length = s.size := by omega
      rw [hsz]
      rcases hDD : D with _ | ⟨x, _ | ⟨y, q⟩⟩
      · have hz0 : s.size = 1 := by rw [← hsz, hDD]; rfl
        have hz1 : ((s.size : Int) == 1) = true := beq_iff_eq.2 (by omega)
        have HDD := Lib.hid hDD
        clear HA HDK hDl hsz ha hDD
        go_wp2_with fail
        go_ret
        exact ⟨ret_bool (by rw [HDD.out]; rfl), rfl⟩
      · have hlen : 1 + 1 = s.size := by rw [← hsz, hDD]; rfl
        have hz1 : ((s.size : Int) == 1) = false := beq_eq_false_iff_ne.2 (by omega)
        have hl2 : 1 < s.size := by omega
        have hn : natB D = true := natB_one D x hDD ha
        have hl3 : ¬ (1 : Int) + 1 < s.size := by omega
        have HN := Lib.hid hn
        clear HA HDK hDl hsz ha hDD hn
        by_cases h48 : ((s[1].toNat : Int) == 48) = true
        · go_wp2_with fail
          go_ret
          exact ⟨ret_bool (by rw [HN.out, Bool.true_and]), rfl⟩
        · have h48' : ((s[1].toNat : Int) == 48) = false := by simpa using h48
          clear h48
          go_wp2_with fail
          go_ret
          exact ⟨ret_bool (by rw [HN.out, Bool.true_and]), rfl⟩
      · have hlen : q.length + 2 + 1 = s.size := by rw [← hsz, hDD, List.length_cons, List.length_cons]; omega
        have hz1 : ((s.size : Int) == 1) = false := beq_eq_false_iff_ne.2 (by omega)
        have hl2 : 1 < s.size := by omega
        have e := HDK.out 0 (by rw [hDD]; exact Nat.succ_pos _) (by omega)
        have hx : s[1] = x := by rw [show s[1] = s[1 + 0] from rfl, e]; simp [hDD]
        have hn : natB D = !(x == 48) := natB_more D x (y :: q) hDD (by simp) ha
        have hl3 : (1 : Int) + 1 < s.size := by omega
        have hx8 : ((s[1].toNat : Int) == 48) = (x == 48) := by rw [hx]; exact eq48 x
        generalize (x == 48) = t at hx8 hn
        have HN := Lib.hid hn
        clear HA HDK hDl hsz ha hDD hn e hx
        cases t
        · go_wp2_with fail
          go_ret
          exact ⟨ret_bool (by rw [HN.out]; rfl), rfl⟩
        · go_wp2_with fail
          go_ret
          exact ⟨ret_bool (by rw [HN.out]; rfl), rfl⟩
end Go.Proofs.YtgldpdbdgjehkaaGreatDoor
