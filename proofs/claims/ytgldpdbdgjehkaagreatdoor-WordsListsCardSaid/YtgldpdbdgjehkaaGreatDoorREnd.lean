/- The reference's end and Right. -/
import Derived.Test.YtgldpdbdgjehkaaGreatDoorJMath
import Derived.Test.YtgldpdbdgjehkaaGreatDoorRead
namespace Go.Proofs.YtgldpdbdgjehkaaGreatDoor
open Go.RowKit

theorem endQ_one (c : UInt8) (r : List UInt8) (h : c ≠ 34) : endQ (c :: r) = 1 + endQ r := by
  cases r with
  | nil => rfl
  | cons d r => rw [endQ, if_neg h]
theorem endQ_two (r : List UInt8) : endQ (34 :: 34 :: r) = 2 + endQ r := by rw [endQ, if_pos rfl, if_pos rfl]
theorem endQ_alone (r : List UInt8) (h : r.head? ≠ some 34) : endQ (34 :: r) = 1 := by
  cases r with
  | nil => rfl
  | cons d r => rw [endQ, if_pos rfl, if_neg (by simpa using h)]
theorem byte_eq (c : UInt8) (n : Nat) (hn : n < 256) (h : c = UInt8.ofNat n) : ((c.toNat : Int) == (n : Int)) = true := by
  subst h; simp; omega
theorem byte_ne (c : UInt8) (n : Nat) (hn : n < 256) (h : c ≠ UInt8.ofNat n) : ((c.toNat : Int) == (n : Int)) = false := by
  rw [beq_eq_false_iff_ne]; intro e; apply h; apply UInt8.toNat_inj.1; simp; omega
def EndPost (s : ByteArray) (k : Nat) (w : World) (e : Ending) (w' : World) : Prop := e = .returned (.int .i64 ((k + endL (s.data.toList.drop k) : Nat) : Int)) ∧ w = w'

set_option maxHeartbeats 1000000 in
theorem rend_quoted (s : ByteArray) (k : Nat) (w : World) (hs : s.size ≤ 4096) (hk : k < s.size) (h34 : s[k] = 34) : Calls Tryz.prog 67 #[.string s, .int .i64 k] w (EndPost s k w) := by
  have h0 : ((s[k].toNat : Int) == 34) = true := by rw [h34]; rfl
  have he : endL (s.data.toList.drop k) = 1 + endQ (s.data.toList.drop (k + 1)) := by
    rw [drop_at s k hk, h34]; rfl
  unfold EndPost
  rw [he]
  generalize hF : k + (1 + endQ (s.data.toList.drop (k + 1))) = F
  have hF' : k + 1 + endQ (s.data.toList.drop (k + 1)) = F := by omega
  clear he h34 hF
  have HF := Lib.hid hF'; clear hF'
  go_enter Tryz.func67, Tryz.ntmps67
  go_wp2_with fail
  go_loop [6] (fun i => ∃ j : Nat, j ≤ s.size ∧ i = .int .i64 j ∧ j + endQ (s.data.toList.drop j) = F) (fun i => s.size - (intOf i).toNat)
  case atStart => exact ⟨k + 1, by omega, by go_num, HF.out⟩
  case round =>
    obtain ⟨j, hj, rfl, hjF⟩ := hrel
    by_cases hlt : j < s.size
    · rw [drop_at s j hlt] at hjF
      by_cases hc : s[j] = 34
      · have h3 : ((s[j].toNat : Int) == 34) = true := by rw [hc]; rfl
        rw [hc] at hjF
        by_cases hend : j + 1 = s.size
        · have hz : ((j : Int) + 1 == (s.size : Int)) = true := beq_iff_eq.2 (by omega)
          rw [hend, List.drop_of_length_le (by rw [size_list]; omega)] at hjF
          have HJ := Lib.hid hjF; clear hjF hc hend
          go_wp2_with fail
          go_ret
          exact ⟨ret_int (by have := HJ.out; simp [endQ] at this; omega), rfl⟩
        · have hz : ((j : Int) + 1 == (s.size : Int)) = false := beq_eq_false_iff_ne.2 (by omega)
          have hlt2 : j + 1 < s.size := by omega
          rw [drop_at s (j + 1) hlt2] at hjF
          by_cases hd : s[j + 1] = 34
          · have h4 : ((s[j + 1].toNat : Int) != 34) = false := by rw [hd]; rfl
            rw [hd, endQ_two] at hjF
            have HJ := Lib.hid hjF; clear hjF hc hend hd
            go_wp2_with fail
            refine ⟨⟨j + 1 + 1, by omega, by go_num, by have := HJ.out; omega⟩, by simp [intOf]; omega⟩
          · have h4 : ((s[j + 1].toNat : Int) != 34) = true := by
              have := byte_ne _ 34 (by omega) hd
              rw [beq_eq_false_iff_ne] at this; rw [bne_iff_ne]; exact this
            rw [endQ_alone _ (by simpa using hd)] at hjF
            have HJ := Lib.hid hjF; clear hjF hc hend hd
            go_wp2_with fail
            go_ret
            exact ⟨ret_int (by have := HJ.out; omega), rfl⟩
      · have h3 : ((s[j].toNat : Int) == 34) = false := byte_ne _ 34 (by omega) hc
        rw [endQ_one _ _ hc] at hjF
        have HJ := Lib.hid hjF; clear hjF hc
        go_wp2_with fail
        refine ⟨⟨j + 1, by omega, by go_num, by have := HJ.out; omega⟩, by simp [intOf]; omega⟩
    · obtain rfl : j = s.size := by omega
      rw [List.drop_of_length_le (by rw [size_list]; omega)] at hjF
      have HJ := Lib.hid hjF; clear hjF
      go_wp2_with fail
      go_ret
      exact ⟨ret_int (by have := HJ.out; simp [endQ] at this; omega), rfl⟩
set_option maxHeartbeats 1000000 in
theorem rend_bare (s : ByteArray) (k : Nat) (w : World) (hs : s.size ≤ 4096) (hk : k < s.size) (h34 : s[k] ≠ 34) : Calls Tryz.prog 67 #[.string s, .int .i64 k] w (EndPost s k w) := by
  have h0 : ((s[k].toNat : Int) == 34) = false := byte_ne _ 34 (by omega) h34
  have he : endL (s.data.toList.drop k) = endB (s.data.toList.drop k) := by
    unfold endL; rw [if_neg]; rw [drop_at s k hk]; simpa using h34
  unfold EndPost
  rw [he]
  generalize hF : k + endB (s.data.toList.drop k) = F
  clear he h34
  have HF := Lib.hid hF; clear hF
  go_enter Tryz.func67, Tryz.ntmps67
  go_wp2_with fail
  go_loop [6] (fun i => ∃ j : Nat, j ≤ s.size ∧ i = .int .i64 j ∧ j + endB (s.data.toList.drop j) = F) (fun i => s.size - (intOf i).toNat)
  case atStart => exact ⟨k, by omega, by go_num, HF.out⟩
  case round =>
    obtain ⟨j, hj, rfl, hjF⟩ := hrel
    by_cases hlt : j < s.size
    · rw [drop_at s j hlt, endB] at hjF
      by_cases hc : s[j] = 32
      · have h3 : ((s[j].toNat : Int) == 32) = true := by rw [hc]; rfl
        rw [if_pos hc] at hjF
        have HJ := Lib.hid hjF; clear hjF hc
        go_wp2_with fail
        go_ret
        exact ⟨ret_int (by have := HJ.out; omega), rfl⟩
      · have h3 : ((s[j].toNat : Int) == 32) = false := byte_ne _ 32 (by omega) hc
        rw [if_neg hc] at hjF
        have HJ := Lib.hid hjF; clear hjF hc
        go_wp2_with fail
        refine ⟨⟨j + 1, by omega, by go_num, by have := HJ.out; omega⟩, by simp [intOf]; omega⟩
    · obtain rfl : j = s.size := by omega
      rw [List.drop_of_length_le (by rw [size_list]; omega)] at hjF
      have HJ := Lib.hid hjF; clear hjF
      go_wp2_with fail
      go_ret
      exact ⟨ret_int (by have := HJ.out; simp [endB] at this; omega), rfl⟩
theorem rend_any (s : ByteArray) (k : Nat) (w : World) (hs : s.size ≤ 4096) (hk : k < s.size) : Calls Tryz.prog 67 #[.string s, .int .i64 k] w (EndPost s k w) := by
  by_cases h34 : s[k] = 34
  · exact rend_quoted s k w hs hk h34
  · exact rend_bare s k w hs hk h34

theorem any_none {chars : List UInt8} : ∀ {l : List UInt8}, (∀ b ∈ l, chars.contains b = false) → Lib.containsAny l chars = false
  | [], _ => rfl
  | b :: l, h => by
    have ih := any_none (fun x hx => h x (List.mem_cons_of_mem _ hx))
    have hb := h b (by simp)
    unfold Lib.containsAny at ih ⊢
    have ih := of_decide_eq_false ih
    have hg := Lib.indexAny_ge chars l
    rw [Lib.indexAny, if_neg (by rw [hb]; simp), if_pos (by rw [beq_iff_eq]; omega)]
    rfl
theorem bareB_free {l : List UInt8} (h0 : l ≠ []) (h : ∀ b ∈ l, b ≠ 32 ∧ b ≠ 34) : bareB l = textB l := by
  unfold bareB
  rw [any_none (by intro b hb; have := h b hb; simp [this.1, this.2])]
  cases l with
  | nil => exact absurd rfl h0
  | cons c r => simp
theorem bareB_hit {l : List UInt8} {b : UInt8} (hb : b ∈ l) (h : b = 32 ∨ b = 34) : bareB l = false := by
  cases hx : bareB l
  · rfl
  · have := bareB_no hx b hb
    rcases h with h | h
    · exact absurd h this.1
    · exact absurd h this.2
def RightPost (f : Fld) (w : World) (e : Ending) (w' : World) : Prop := e = .returned (.bool (writeR f).2) ∧ Below w.heap.size w w'
set_option maxHeartbeats 1000000 in
theorem rright_any (q : Bool) (t : ByteArray) (w : World) (hs : t.size ≤ 20000) : Calls Tryz.prog 68 #[.agg #[.bool q, .string t]] w (RightPost (q, t.data.toList) w) := by
  have hb := (Below.refl w.heap.size w).alloc (Nat.le_refl _) (.cells #[.bool q, .string t] 65)
  have c := fun W => rtext_any t W (by unfold maxLen; omega)
  unfold RightPost
  cases q
  · have hw : (writeR (false, t.data.toList)).2 = bareB t.data.toList := rfl
    rw [hw]
    have HB := Lib.hid hb; clear hb hw
    by_cases h0 : t.size = 0
    · have hz : ((t.size : Int) == 0) = true := by rw [h0]; rfl
      have hn : bareB t.data.toList = false := by
        have : t.data.toList = [] := List.length_eq_zero_iff.1 (by rw [size_list]; exact h0)
        rw [this]; rfl
      have HN := Lib.hid hn; clear hn h0 c
      go_enter Tryz.func68, Tryz.ntmps68
      go_wp2_with fail
      go_ret
      exact ⟨ret_bool HN.out.symm, HB.out⟩
    · have hz : ((t.size : Int) == 0) = false := beq_eq_false_iff_ne.2 (by omega)
      have C := Lib.hid c; clear c
      go_enter Tryz.func68, Tryz.ntmps68
      go_wp2_with fail
      go_loop [3] (fun i => ∃ k : Nat, k ≤ t.size ∧ i = .int .i64 k ∧ ∀ b ∈ t.data.toList.take k, b ≠ 32 ∧ b ≠ 34) (fun i => t.size - (intOf i).toNat)
      case atStart => exact ⟨0, Nat.zero_le _, by go_num, by simp⟩
      case round =>
        obtain ⟨k, hk, rfl, hall⟩ := hrel
        by_cases hlt : k < t.size
        · have hmem : t[k] ∈ t.data.toList := List.mem_iff_getElem.2 ⟨k, by rw [size_list]; exact hlt, rfl⟩
          by_cases h32 : t[k] = 32
          · have h3 : ((t[k].toNat : Int) == 32) = true := by rw [h32]; rfl
            have hno := bareB_hit hmem (.inl h32)
            have HN := Lib.hid hno; clear hno h32 hmem hall C
            go_wp2_with fail
            go_ret
            exact ⟨ret_bool HN.out.symm, HB.out⟩
          · have h3 : ((t[k].toNat : Int) == 32) = false := byte_ne _ 32 (by omega) h32
            by_cases h34 : t[k] = 34
            · have h4 : ((t[k].toNat : Int) == 34) = true := by rw [h34]; rfl
              have hno := bareB_hit hmem (.inr h34)
              have HN := Lib.hid hno; clear hno h32 h34 hmem hall C
              go_wp2_with fail
              go_ret
              exact ⟨ret_bool HN.out.symm, HB.out⟩
            · have h4 : ((t[k].toNat : Int) == 34) = false := byte_ne _ 34 (by omega) h34
              have hall' : ∀ b ∈ t.data.toList.take (k + 1), b ≠ 32 ∧ b ≠ 34 := by
                intro b hb
                rw [take_snoc t k hlt] at hb
                rcases List.mem_append.1 hb with h | h
                · exact hall b h
                · obtain rfl := List.mem_singleton.1 h; exact ⟨h32, h34⟩
              have HA := Lib.hid hall'; clear hall' hall h32 h34 hmem C
              go_wp2_with fail
              refine ⟨⟨k + 1, by omega, by go_num, HA.out⟩, by simp [intOf]; omega⟩
        · obtain rfl : k = t.size := by omega
          rw [take_all] at hall
          have hfr := bareB_free (by intro e; rw [← size_list, e] at h0; exact h0 rfl) hall
          have HF := Lib.hid hfr; clear hfr hall
          go_wp2_with (go_at_call 18; refine (C.out _).mono ?_; rintro e w' ⟨rfl, rfl⟩)
          go_ret
          exact ⟨ret_bool HF.out.symm, HB.out⟩
  · have hw : (writeR (true, t.data.toList)).2 = textB t.data.toList := by
      unfold writeR quoteR
      cases textB t.data.toList <;> rfl
    rw [hw]
    have HB := Lib.hid hb; have C := Lib.hid c; clear hb c hw
    go_enter Tryz.func68, Tryz.ntmps68
    go_wp2_with (go_at_call 18; refine (C.out _).mono ?_; rintro e w' ⟨rfl, rfl⟩)
    go_ret
    exact ⟨rfl, HB.out⟩
end Go.Proofs.YtgldpdbdgjehkaaGreatDoor
