/- Package words: decimal, Int and capped: what each returns. -/
import Derived.Test.YtgldpdbdgjehkaaGreatDoorNums
namespace Go.Proofs.YtgldpdbdgjehkaaGreatDoor
open Go.RowKit

/-- The decimal form of an integer. -/
def decB (l : List UInt8) : Bool := natB (Lib.trimPrefix l [45]) && !(Lib.hasPrefix l [45] && Lib.trimPrefix l [45] == [48])
theorem decimal_core (s t : ByteArray) (neg nat z : Bool) (hz : (t.data.toList == [48]) = z) (w : World)
    (h1 : ∀ W, Calls Tryz.prog 73 #[.string s, .string ⟨#[45]⟩] W fun e w' => e = .returned (.tuple #[.string t, .bool neg]) ∧ w' = W)
    (h2 : ∀ W, Calls Tryz.prog 74 #[.string t] W fun e w' => e = .returned (.bool nat) ∧ W = w') :
    Calls Tryz.prog 50 #[.string s] w fun e w' => e = .returned (.bool (nat && !(neg && z))) ∧ w = w' := by
  have C1 := Lib.hid h1; have C2 := Lib.hid h2; clear h1 h2
  have hz1 : (t.toList == [48]) = z := by rw [Lib.toList_data]; exact hz
  cases nat <;> cases neg <;> cases z
  all_goals
    go_enter Tryz.func50, Tryz.ntmps50
    go_wp2_with (first | (go_at_call 73; refine (C1.out _).mono ?_; rintro e w' ⟨rfl, rfl⟩) | (go_at_call 74; refine (C2.out _).mono ?_; rintro e w' ⟨rfl, rfl⟩))
    go_ret
    exact ⟨rfl, rfl⟩
theorem trimPrefix_size (s p : ByteArray) : (⟨(Lib.trimPrefix s.data.toList p.data.toList).toArray⟩ : ByteArray).size ≤ s.size := by
  have := Lib.trimPrefix_le s.data.toList p.data.toList
  show (Lib.trimPrefix s.data.toList p.data.toList).toArray.size ≤ s.data.size
  simpa using this
theorem decimal_any (s : ByteArray) (w : World) (hs : s.size ≤ maxLen) : Calls Tryz.prog 50 #[.string s] w fun e w' => e = .returned (.bool (decB s.data.toList)) ∧ w = w' :=
  decimal_core s _ _ _ _ rfl w (fun W => Tryz.strings_CutPrefix s ⟨#[45]⟩ W) (fun W => natural_any _ W (Nat.le_trans (trimPrefix_size s ⟨#[45]⟩) hs))

/-- Int(s, min, max). -/
def intR (l : List UInt8) (min max : Int) : Int × Int :=
  if max < min then (0, 2) else if decB l = false then (0, 6) else
  match Lib.parseIntB 64 l with
  | .ok v => if v < min ∨ max < v then (0, 7) else (v, 0)
  | _ => (0, 7)
/-- Is it a number, or one that is too great? -/
def isNum {α : Type} : Lib.NumEnd α → Bool
  | .ok _ => true
  | .range => true
  | _ => false
theorem parseUintM_dig (M : Nat) : ∀ (l : List UInt8) (acc : Nat), allP isDigit l = true → isNum (Lib.parseUintM M acc l) = true := by
  intro l
  induction l with
  | nil => intro acc _; rfl
  | cons c r ih =>
    intro acc h
    simp only [allP, List.all_cons, Bool.and_eq_true] at h
    have hc : 48 ≤ c.toNat ∧ c.toNat ≤ 57 := by have := h.1; simp [isDigit] at this; omega
    rw [Lib.parseUintM, if_pos hc]
    split
    · rfl
    · split
      · rfl
      · exact ih _ h.2
theorem natB_parts {l : List UInt8} (h : natB l = true) : l ≠ [] ∧ allP isDigit l = true := by
  cases l with
  | nil => simp [natB] at h
  | cons c r => simp only [natB, Bool.and_eq_true] at h; exact ⟨by simp, h.2⟩
theorem parseUintB_nat {l : List UInt8} (h : natB l = true) : isNum (Lib.parseUintB 64 l) = true := by
  obtain ⟨h1, h2⟩ := natB_parts h
  rw [Lib.parseUintB, if_neg h1]
  exact parseUintM_dig _ _ _ h2
theorem parseIntB_dec (l : List UInt8) (h : decB l = true) : isNum (Lib.parseIntB 64 l) = true := by
  have hn : natB (Lib.trimPrefix l [45]) = true := by simp only [decB, Bool.and_eq_true] at h; exact h.1
  cases l with
  | nil => simp [Lib.trimPrefix, Lib.hasPrefix, natB] at hn
  | cons c r =>
    have hu : isNum (Lib.parseUintB 64 (if c.toNat = 43 ∨ c.toNat = 45 then r else c :: r)) = true := by
      by_cases hc : c = 45
      · subst hc
        have e : Lib.trimPrefix (45 :: r) [45] = r := by simp [Lib.trimPrefix, Lib.hasPrefix]
        rw [e] at hn
        rw [if_pos (by decide)]
        exact parseUintB_nat hn
      · have hc' : ¬ c.toNat = 45 := fun e => hc (UInt8.toNat_inj.1 (by show c.toNat = 45; exact e))
        have e : Lib.trimPrefix (c :: r) [45] = c :: r := by simp [Lib.trimPrefix, Lib.hasPrefix, Ne.symm hc]
        rw [e] at hn
        have hd := (natB_parts hn).2
        simp only [allP, List.all_cons, Bool.and_eq_true] at hd
        have h48 : 48 ≤ c.toNat := by have := hd.1; simp [isDigit] at this; omega
        rw [if_neg (by omega)]
        exact parseUintB_nat hn
    unfold Lib.parseIntB
    simp only
    split
    · rename_i hs; rw [hs] at hu; cases hu
    · rfl
    · split
      · rfl
      · split <;> rfl
set_option maxHeartbeats 400000 in
theorem int_any (s : ByteArray) (mn mx : Int) (w : World) (he : Env w) (hs : s.size ≤ 281474976710656) :
    Calls Tryz.prog 19 #[.string s, .int .i64 mn, .int .i64 mx] w fun e w' => e = .returned (.tuple #[.int .i64 (intR s.data.toList mn mx).1, .int .i64 (intR s.data.toList mn mx).2]) ∧ Below w.heap.size w w' := by
  have cd := decimal_any s
  have hsm : s.size ≤ maxLen := by unfold maxLen; omega
  by_cases h1 : mx < mn
  · have er : intR s.data.toList mn mx = (0, 2) := by simp [intR, h1]
    rw [er]; clear er cd he
    go_enter Tryz.func19, Tryz.ntmps19
    go_wp2
    go_ret2
    exact ⟨rfl, Below.refl _ _⟩
  · cases hd : decB s.data.toList
    · have er : intR s.data.toList mn mx = (0, 6) := by simp [intR, h1, hd]
      rw [er]; clear er he
      have c : ∀ W, Calls Tryz.prog 50 #[.string s] W fun e w' => e = .returned (.bool false) ∧ W = w' := fun W => by have := cd W hsm; rw [hd] at this; exact this
      have C := Lib.hid c; clear c cd hd
      go_enter Tryz.func19, Tryz.ntmps19
      go_wp2_with (go_at_call 50; refine (C.out _).mono ?_; rintro e w' ⟨rfl, rfl⟩)
      go_ret2
      exact ⟨rfl, Below.refl _ _⟩
    · have c : ∀ W, Calls Tryz.prog 50 #[.string s] W fun e w' => e = .returned (.bool true) ∧ W = w' := fun W => by have := cd W hsm; rw [hd] at this; exact this
      have C := Lib.hid c; clear c cd
      have hns := parseIntB_dec _ hd
      cases hp : Lib.parseIntB 64 s.data.toList with
      | range =>
        have er : intR s.data.toList mn mx = (0, 7) := by simp [intR, h1, hd, hp]
        rw [er]; clear er
        obtain ⟨tp, p, hv⟩ := he.errRange
        have cp := Tryz.strconv_ParseInt_10_at64_range_var s hs hp tp p w hv
        have CP := Lib.hid cp; clear cp hp hd hns he hv
        go_enter Tryz.func19, Tryz.ntmps19
        go_wp2_with (first | (go_at_call 50; refine (C.out _).mono ?_; rintro e w' ⟨rfl, rfl⟩) | (go_at_call 51; refine (CP.out).mono ?_; rintro e w' ⟨N, rfl, hN, hcell, hb⟩))
        go_ret2
        exact ⟨rfl, hb⟩
      | ok v =>
        have cp := Tryz.strconv_ParseInt_10_at64_ok s (by omega) v hp
        have cp' : ∀ W, Calls Tryz.prog 51 #[.string s, .int .i64 10, .int .i64 64] W fun e w' => e = .returned (.tuple #[.int .i64 v, .nilIface]) ∧ Below W.heap.size W w' := fun W => (cp W).mono fun e w' ⟨h, hw⟩ => ⟨h, by
          rcases hw with rfl | ⟨t, rfl⟩
          · exact Below.refl _ _
          · exact Lib.bytesWorld_below _ _ _⟩
        have CP := Lib.hid cp'; clear cp cp' he
        have er : intR s.data.toList mn mx = if v < mn ∨ mx < v then (0, 7) else (v, 0) := by simp [intR, h1, hd, hp]
        rw [er]; clear er hp hd hns
        by_cases h2 : v < mn
        · rw [if_pos (.inl h2)]
          go_enter Tryz.func19, Tryz.ntmps19
          go_wp2_with (first | (go_at_call 50; refine (C.out _).mono ?_; rintro e w' ⟨rfl, rfl⟩) | (go_at_call 51; refine (CP.out _).mono ?_; rintro e w' ⟨rfl, hb⟩))
          go_ret2
          exact ⟨rfl, hb⟩
        · by_cases h3 : mx < v
          · rw [if_pos (.inr h3)]
            go_enter Tryz.func19, Tryz.ntmps19
            go_wp2_with (first | (go_at_call 50; refine (C.out _).mono ?_; rintro e w' ⟨rfl, rfl⟩) | (go_at_call 51; refine (CP.out _).mono ?_; rintro e w' ⟨rfl, hb⟩))
            go_ret2
            exact ⟨rfl, hb⟩
          · rw [if_neg (by omega)]
            go_enter Tryz.func19, Tryz.ntmps19
            go_wp2_with (first | (go_at_call 50; refine (C.out _).mono ?_; rintro e w' ⟨rfl, rfl⟩) | (go_at_call 51; refine (CP.out _).mono ?_; rintro e w' ⟨rfl, hb⟩))
            go_ret2
            exact ⟨rfl, hb⟩

      | _ => rw [hp] at hns; cases hns
/-- capped(s): the number, or 10000 for a greater one. -/
def cap1 (l : List UInt8) : Int := if (intR l 0 9999).2 = 0 then (intR l 0 9999).1 else 10000
theorem capped_any (s : ByteArray) (w : World) (he : Env w) (hs : s.size ≤ 281474976710656) :
    Calls Tryz.prog 82 #[.string s] w fun e w' => e = .returned (.int .i64 (cap1 s.data.toList)) ∧ Below w.heap.size w w' := by
  have c := int_any s 0 9999 w he hs
  unfold cap1
  generalize intR s.data.toList 0 9999 = r at c ⊢
  obtain ⟨v, x⟩ := r
  have C := Lib.hid c; clear c he
  by_cases hx : x = 0
  · subst hx
    go_enter Tryz.func82, Tryz.ntmps82
    go_wp2_with (go_at_call 19; refine (C.out).mono ?_; rintro e w' ⟨rfl, hb⟩)
    go_ret
    exact ⟨rfl, hb⟩
  · have hx' : (x != 0) = true := by simpa using hx
    rw [if_neg hx]
    have HX := Lib.hid hx; clear hx
    go_enter Tryz.func82, Tryz.ntmps82
    go_wp2_with (go_at_call 19; refine (C.out).mono ?_; rintro e w' ⟨rfl, hb⟩)
    go_ret
    exact ⟨rfl, hb⟩
end Go.Proofs.YtgldpdbdgjehkaaGreatDoor
