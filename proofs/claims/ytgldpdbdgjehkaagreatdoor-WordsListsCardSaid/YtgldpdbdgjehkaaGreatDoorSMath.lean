/- One step of the reference's Split against one round of the program's. -/
import Derived.Test.YtgldpdbdgjehkaaGreatDoorRQuotes
import Derived.Test.YtgldpdbdgjehkaaGreatDoorSplit
namespace Go.Proofs.YtgldpdbdgjehkaaGreatDoor
open Go.RowKit

/-- Where a quoted field ends, behind its first quote. -/
def endQ : List UInt8 → Nat
  | [] => 0
  | [_] => 1
  | c :: d :: r => if c = 34 then (if d = 34 then 2 + endQ r else 1) else 1 + endQ (d :: r)
/-- Where a bare field ends. -/
def endB : List UInt8 → Nat
  | [] => 0
  | c :: r => if c = 32 then 0 else 1 + endB r
def endL (l : List UInt8) : Nat := if l.head? = some 34 then 1 + endQ l.tail else endB l
theorem endQ_le : ∀ (n : Nat) (l : List UInt8), l.length ≤ n → endQ l ≤ l.length := by
  intro n
  induction n with
  | zero => intro l h; obtain rfl := List.length_eq_zero_iff.1 (Nat.le_zero.1 h); simp [endQ]
  | succ n ih =>
    intro l h
    match l, h with
    | [], _ => simp [endQ]
    | [_], _ => simp [endQ]
    | c :: d :: r, h =>
      simp only [List.length_cons] at h
      rw [endQ]
      split
      · split
        · have := ih r (by omega); simp; omega
        · simp
      · have := ih (d :: r) (by simp; omega); simp at this ⊢; omega
theorem endB_le : ∀ l : List UInt8, endB l ≤ l.length
  | [] => by simp [endB]
  | c :: r => by have := endB_le r; rw [endB]; split <;> simp; omega
theorem endL_le (l : List UInt8) : endL l ≤ l.length := by
  unfold endL
  split
  · rename_i h
    cases l with
    | nil => cases h
    | cons c r => have := endQ_le _ r (Nat.le_refl _); simp; omega
  · exact endB_le l

theorem uq_append : ∀ (n : Nat) (X t R : List UInt8), X.length ≤ n → uq X = some t → uq (X ++ R) = (uq R).map (t ++ ·) := by
  intro n
  induction n with
  | zero =>
    intro X t R h hu
    obtain rfl := List.length_eq_zero_iff.1 (Nat.le_zero.1 h)
    cases hu; cases h : uq R <;> simp [h]
  | succ n ih =>
    intro X t R h hu
    match X, h, hu with
    | [], _, hu => cases hu; cases h : uq R <;> simp [h]
    | [c], _, hu =>
      rw [uq] at hu
      by_cases hc : c = 34
      · rw [if_pos hc] at hu; cases hu
      · rw [if_neg hc] at hu; cases hu
        rw [List.singleton_append, uq_one c R hc]; rfl
    | c :: d :: r, h, hu =>
      simp only [List.length_cons] at h
      rw [uq] at hu
      by_cases hc : c = 34
      · rw [if_pos hc] at hu
        by_cases hd : d = 34
        · rw [if_pos hd] at hu
          obtain ⟨t', h1, rfl⟩ := Option.map_eq_some_iff.1 hu
          subst hc hd
          rw [List.cons_append, List.cons_append, uq_two, ih r t' R (by omega) h1, Option.map_map]; rfl
        · rw [if_neg hd] at hu; cases hu
      · rw [if_neg hc] at hu
        obtain ⟨t', h1, rfl⟩ := Option.map_eq_some_iff.1 hu
        rw [List.cons_append, uq_one c _ hc, ih (d :: r) t' R (by simp; omega) h1, Option.map_map]; rfl
/-- Where the quotes stand in what follows a first quote. -/
theorem endQ_form : ∀ (n : Nat) (T : List UInt8), T.length ≤ n → ∃ X t, uq X = some t ∧ ((T = X ∧ endQ T = X.length) ∨ ∃ R, T = X ++ 34 :: R ∧ R.head? ≠ some 34 ∧ endQ T = X.length + 1) := by
  intro n
  induction n with
  | zero => intro T h; obtain rfl := List.length_eq_zero_iff.1 (Nat.le_zero.1 h); exact ⟨[], [], rfl, .inl ⟨rfl, rfl⟩⟩
  | succ n ih =>
    intro T h
    match T, h with
    | [], _ => exact ⟨[], [], rfl, .inl ⟨rfl, rfl⟩⟩
    | [c], _ =>
      by_cases hc : c = 34
      · subst hc; exact ⟨[], [], rfl, .inr ⟨[], rfl, by simp, rfl⟩⟩
      · exact ⟨[c], [c], by rw [uq, if_neg hc], .inl ⟨rfl, rfl⟩⟩
    | c :: d :: r, h =>
      simp only [List.length_cons] at h
      by_cases hc : c = 34
      · by_cases hd : d = 34
        · subst hc hd
          obtain ⟨X, t, hu, hx⟩ := ih r (by omega)
          refine ⟨34 :: 34 :: X, 34 :: t, by rw [uq_two, hu]; rfl, ?_⟩
          rcases hx with ⟨h1, h2⟩ | ⟨R, h1, h2, h3⟩
          · left; rw [endQ, if_pos rfl, if_pos rfl, h2, h1]; exact ⟨rfl, by simp; omega⟩
          · right; refine ⟨R, by rw [h1]; rfl, h2, by rw [endQ, if_pos rfl, if_pos rfl, h3]; simp; omega⟩
        · subst hc
          exact ⟨[], [], rfl, .inr ⟨d :: r, rfl, by simpa using hd, by rw [endQ, if_pos rfl, if_neg hd]; rfl⟩⟩
      · obtain ⟨X, t, hu, hx⟩ := ih (d :: r) (by simp; omega)
        refine ⟨c :: X, c :: t, by rw [uq_one c X hc, hu]; rfl, ?_⟩
        rcases hx with ⟨h1, h2⟩ | ⟨R, h1, h2, h3⟩
        · left; rw [endQ, if_neg hc, h2, h1]; exact ⟨rfl, by simp; omega⟩
        · right; refine ⟨R, by rw [h1]; rfl, h2, by rw [endQ, if_neg hc, h3]; simp; omega⟩
theorem scan_uq : ∀ (n : Nat) (X t R : List UInt8) (i : Nat), X.length ≤ n → uq X = some t → scanL (X ++ R) true i = scanL R true (i + X.length) := by
  intro n
  induction n with
  | zero => intro X t R i h _; obtain rfl := List.length_eq_zero_iff.1 (Nat.le_zero.1 h); rfl
  | succ n ih =>
    intro X t R i h hu
    match X, h, hu with
    | [], _, hu => rfl
    | [c], _, hu =>
      rw [uq] at hu
      by_cases hc : c = 34
      · rw [if_pos hc] at hu; cases hu
      · rw [List.singleton_append, scanL, if_neg (by simp), if_neg hc]; rfl
    | c :: d :: r, h, hu =>
      simp only [List.length_cons] at h
      rw [uq] at hu
      by_cases hc : c = 34
      · rw [if_pos hc] at hu
        by_cases hd : d = 34
        · rw [if_pos hd] at hu
          obtain ⟨t', h1, rfl⟩ := Option.map_eq_some_iff.1 hu
          subst hc hd
          rw [List.cons_append, List.cons_append, scanL, if_neg (by simp), if_pos rfl, scanL, if_neg (by simp), if_pos rfl]
          have := ih r t' R (i + 1 + 1) (by omega) h1
          simp only [Bool.not_true, Bool.not_false, List.length_cons]
          rw [this]; congr 1; omega
        · rw [if_neg hd] at hu; cases hu
      · rw [if_neg hc] at hu
        obtain ⟨t', h1, rfl⟩ := Option.map_eq_some_iff.1 hu
        rw [List.cons_append, scanL, if_neg (by simp), if_neg hc]
        have := ih (d :: r) t' R (i + 1) (by simp; omega) h1
        rw [this]; congr 1; simp; omega
theorem cutR_none {l : List UInt8} (h : scanL l false 0 = -1) : cutR l = (l, [], false) := by unfold cutR; rw [h, if_pos (by decide)]
theorem cutR_at {l : List UInt8} {k : Nat} (h : scanL l false 0 = (k : Int)) : cutR l = (l.take k, l.drop (k + 1), true) := by unfold cutR; rw [h, if_neg (by omega)]; simp
theorem any_of {x : UInt8} {chars : List UInt8} (hc : chars.contains x = true) : ∀ {l : List UInt8}, x ∈ l → Lib.containsAny l chars = true
  | b :: l, h => by
    unfold Lib.containsAny
    rw [Lib.indexAny]
    by_cases hb : chars.contains b = true
    · rw [if_pos hb]; rfl
    · rw [if_neg hb]
      have hx : x ∈ l := by
        rcases List.mem_cons.1 h with rfl | h
        · exact absurd hc hb
        · exact h
      have ih := any_of hc hx
      unfold Lib.containsAny at ih
      have ih := of_decide_eq_true ih
      rw [if_neg (by rw [beq_iff_eq]; omega)]
      exact decide_eq_true (by omega)
theorem readR_quote (T : List UInt8) : readR (34 :: T) = ((unquoteR (34 :: T)).2 == 0, (unquoteR (34 :: T)).1, (unquoteR (34 :: T)).2 == 0) := by
  unfold readR
  have : bareB (34 :: T) = false := by rw [bareB, any_of (x := 34) rfl (by simp), Bool.not_true, Bool.and_false]
  rw [this]; rfl
theorem readR_other {l : List UInt8} (h : l.head? ≠ some 34) : readR l = (false, if bareB l then l else [], bareB l) := by
  unfold readR
  by_cases hb : bareB l = true
  · rw [if_pos hb, if_pos hb, hb]
  · rw [if_neg hb, if_neg hb, unquoteR_out l (by rintro ⟨T, rfl⟩; exact h rfl)]
    simp only [Bool.not_eq_true] at hb; rw [hb]; rfl
theorem uq_bad {X t : List UInt8} (hu : uq X = some t) {c : UInt8} (hc : c ≠ 34) (Y : List UInt8) : uq (X ++ 34 :: c :: Y) = none := by
  rw [uq_append _ X t _ (Nat.le_refl _) hu, uq_alone _ (by intro r e; injection e with e1 e2; exact hc e1)]; rfl
theorem unquoteR_bad {X t : List UInt8} (hu : uq X = some t) {c : UInt8} (hc : c ≠ 34) (Y : List UInt8) : (unquoteR (34 :: (X ++ 34 :: c :: Y))).2 = 6 := by
  by_cases h : ∃ T, 34 :: (X ++ 34 :: c :: Y) = 34 :: T ++ [34]
  · obtain ⟨T, hT⟩ := h
    rw [hT, unquoteR_in]
    have e : X ++ 34 :: c :: Y = T ++ [34] := by simpa using hT
    have hY : Y ≠ [] := by
      rintro rfl
      have := congrArg List.getLast? e
      simp at this
      exact hc this
    have e2 : T = X ++ 34 :: c :: Y.dropLast := by
      have := congrArg List.dropLast e
      rw [List.dropLast_concat] at this
      rw [← this, List.dropLast_append_of_ne_nil (by simp), List.dropLast_cons_of_ne_nil (by simp), List.dropLast_cons_of_ne_nil hY]
    rw [e2, uq_bad hu hc]
  · rw [unquoteR_out _ h]
theorem readR_nil : (readR (cutR []).1).2.2 = false := by
  rw [cutR_none rfl]; rfl
theorem restF_nil (acc : List Fld) (n : Nat) : restF acc true (n + 1) [] = none := by rw [restF_step, if_pos readR_nil]

/-- The reference's field at the beginning of what is left: is it one, is it quoted, its string. -/
def fieldX (l : List UInt8) : Bool × Bool × List UInt8 :=
  if l.head? = some 34 then ((unquoteR (l.take (endL l))).2 == 0, true, (unquoteR (l.take (endL l))).1) else (bareB (l.take (endL l)), false, l.take (endL l))
/-- Behind a field there is the end, or one blank and another field. -/
def behind (l : List UInt8) : Bool := endL l == l.length || (l[endL l]? == some 32 && endL l + 1 != l.length)

theorem endB_split : ∀ l : List UInt8, (∀ b ∈ l.take (endB l), b ≠ 32) ∧ (endB l = l.length ∨ l[endB l]? = some 32)
  | [] => by simp [endB]
  | c :: r => by
    have ⟨h1, h2⟩ := endB_split r
    rw [endB]
    by_cases hc : c = 32
    · rw [if_pos hc]; simp [hc]
    · rw [if_neg hc, Nat.add_comm 1]
      refine ⟨by simpa using ⟨hc, fun b hb => h1 b hb⟩, ?_⟩
      rcases h2 with h2 | h2
      · left; simp [h2]
      · right; simpa using h2
theorem scan_bare : ∀ (P R : List UInt8) (i : Nat), (∀ b ∈ P, b ≠ 32 ∧ b ≠ 34) → scanL (P ++ R) false i = scanL R false (i + P.length)
  | [], R, i, _ => rfl
  | c :: P, R, i, h => by
    have hc := h c (by simp)
    rw [List.cons_append, scanL, if_neg (by simp [hc.1]), if_neg hc.2, scan_bare P R (i + 1) (fun b hb => h b (by simp [hb]))]
    congr 1; simp; omega
theorem bareB_no {l : List UInt8} (h : bareB l = true) : ∀ b ∈ l, b ≠ 32 ∧ b ≠ 34 := by
  intro b hb
  simp only [bareB, Bool.and_eq_true, Bool.not_eq_true'] at h
  have h2 := h.2
  constructor
  · rintro rfl
    have : Lib.containsAny l [32, 34] = true := any_of rfl hb
    rw [this] at h2; cases h2
  · rintro rfl
    have : Lib.containsAny l [32, 34] = true := any_of rfl hb
    rw [this] at h2; cases h2
theorem take_drop_at {l : List UInt8} {k : Nat} {c : UInt8} (h : l[k]? = some c) : l = l.take k ++ c :: l.drop (k + 1) := by
  obtain ⟨hk, e⟩ := List.getElem?_eq_some_iff.1 h
  conv => lhs; rw [← List.take_append_drop k l, List.drop_eq_getElem_cons hk, e]
/-- A cut is the whole, or ends before a space. -/
theorem cutR_bare {l : List UInt8} (h34 : l.head? ≠ some 34) (hb : bareB (cutR l).1 = true) : (cutR l).1 = l.take (endL l) := by
  have hno := bareB_no hb
  have hE : endL l = endB l := by unfold endL; rw [if_neg h34]
  rw [hE]
  have ⟨h1, h2⟩ := endB_split l
  rcases scanL_range l false 0 with hs | ⟨k, hs, hk⟩
  · rw [cutR_none hs] at hno ⊢
    rcases h2 with h2 | h2
    · rw [h2, List.take_length]
    · exact absurd rfl (hno 32 (List.mem_of_getElem? h2)).1
  · rw [Nat.zero_add] at hs
    rw [cutR_at hs] at hno hb ⊢
    have hk32 : l[k]? = some 32 := by
      have e := List.take_append_drop k l
      rw [List.drop_eq_getElem_cons hk] at e
      have := scan_bare (l.take k) (l[k] :: l.drop (k + 1)) 0 hno
      rw [e, hs, scanL, List.length_take, Nat.min_eq_left (by omega)] at this
      by_cases hc : l[k] = 32
      · rw [List.getElem?_eq_getElem hk, hc]
      · rw [if_neg (by simp [hc])] at this
        rcases scanL_range (l.drop (k + 1)) (if l[k] = 34 then !false else false) (0 + k + 1) with h | ⟨j, h, _⟩
        · rw [h] at this; omega
        · rw [h] at this; omega
    have : endB l = k := by
      rcases Nat.lt_trichotomy (endB l) k with h | h | h
      · rcases h2 with h2 | h2
        · omega
        · exact absurd rfl (hno 32 (List.mem_of_getElem? (by rw [List.getElem?_take_of_lt h]; exact h2))).1
      · exact h
      · exact absurd rfl (h1 32 (List.mem_of_getElem? (by rw [List.getElem?_take_of_lt h]; exact hk32)))
    rw [this]
theorem scan_bare_cut {l : List UInt8} (h34 : l.head? ≠ some 34) (hb : bareB (l.take (endL l)) = true) : cutR l = (l.take (endL l), l.drop (endL l + 1), decide (endL l < l.length)) := by
  have hno := bareB_no hb
  have hE : endL l = endB l := by unfold endL; rw [if_neg h34]
  rw [hE] at hno ⊢
  have ⟨h1, h2⟩ := endB_split l
  rcases h2 with h2 | h2
  · rw [h2, List.take_length] at hno ⊢
    have := scan_bare l [] 0 hno
    rw [List.append_nil] at this
    rw [cutR_none (this.trans rfl), List.drop_of_length_le (by omega)]; simp
  · have e := take_drop_at h2
    have := scan_bare (l.take (endB l)) (32 :: l.drop (endB l + 1)) 0 hno
    have hl : endB l < l.length := (List.getElem?_eq_some_iff.1 h2).1
    rw [← e, scanL, if_pos (by simp), Nat.zero_add, List.length_take, Nat.min_eq_left (by omega)] at this
    rw [cutR_at this]; simp [hl]

theorem ref_step (acc : List Fld) (n : Nat) (l : List UInt8) (hne : l ≠ []) (hn : 0 < n) :
    restF acc true (n + 1) l = if (fieldX l).1 && behind l then restF (acc ++ [((fieldX l).2.1, (fieldX l).2.2)]) (decide (endL l < l.length)) n (l.drop (endL l + 1)) else none := by
  obtain ⟨m, rfl⟩ : ∃ m, n = m + 1 := ⟨n - 1, by omega⟩
  rw [restF_step]
  by_cases h34 : l.head? = some 34
  · obtain ⟨T, rfl⟩ : ∃ T, l = 34 :: T := by
      cases l with
      | nil => cases h34
      | cons c T => exact ⟨T, by rw [Option.some.inj h34]⟩
    have hE : endL (34 :: T) = 1 + endQ T := rfl
    have hX : fieldX (34 :: T) = ((unquoteR ((34 :: T).take (endL (34 :: T)))).2 == 0, true, (unquoteR ((34 :: T).take (endL (34 :: T)))).1) := by unfold fieldX; rw [if_pos h34]
    rw [hX]
    obtain ⟨X, t, hu, hx⟩ := endQ_form _ T (Nat.le_refl _)
    have hscan : ∀ R, scanL (34 :: (X ++ R)) false 0 = scanL R true (1 + X.length) := by
      intro R
      rw [scanL, if_neg (by simp), if_pos rfl]
      exact scan_uq _ X t R 1 (Nat.le_refl _) hu
    rcases hx with ⟨h1, h2⟩ | ⟨R, h1, h2, h3⟩
    · have hs : scanL (34 :: T) false 0 = -1 := by have := hscan []; rw [List.append_nil, ← h1] at this; exact this.trans rfl
      have hEl : endL (34 :: T) = (34 :: T).length := by rw [hE, h2, ← h1]; simp; omega
      have hbe : behind (34 :: T) = true := by unfold behind; rw [hEl]; simp
      rw [cutR_none hs, hEl, List.take_length, hbe, Bool.and_true]
      simp only [readR_quote, List.drop_of_length_le (Nat.le_succ _), Nat.lt_irrefl, decide_false]
      cases hq : (unquoteR (34 :: T)).2 == 0 <;> simp
    · have hEq : endL (34 :: T) = X.length + 2 := by rw [hE, h3]; omega
      have hlen : (34 :: T).length = X.length + 2 + R.length := by rw [h1]; simp; omega
      cases R with
      | nil =>
        have hs : scanL (34 :: T) false 0 = -1 := by rw [h1, hscan]; rfl
        have hEl : endL (34 :: T) = (34 :: T).length := by rw [hEq, hlen]; rfl
        have hbe : behind (34 :: T) = true := by unfold behind; rw [hEl]; simp
        rw [cutR_none hs, hEl, List.take_length, hbe, Bool.and_true]
        simp only [readR_quote, List.drop_of_length_le (Nat.le_succ _), Nat.lt_irrefl, decide_false]
        cases hq : (unquoteR (34 :: T)).2 == 0 <;> simp
      | cons c R =>
        have hc : c ≠ 34 := by simpa using h2
        have hat : (34 :: T)[X.length + 2]? = some c := by rw [h1]; simp
        have htk : (34 :: T).take (X.length + 2) = 34 :: (X ++ [34]) := by rw [h1]; simp [List.take_append, List.take_of_length_le]
        have hdr : (34 :: T).drop (X.length + 2 + 1) = R := by rw [h1]; simp [List.drop_append]
        have hlt : X.length + 2 < (34 :: T).length := by rw [hlen]; simp
        by_cases h32 : c = 32
        · subst h32
          have hs : scanL (34 :: T) false 0 = ((X.length + 2 : Nat) : Int) := by
            rw [h1, hscan, scanL, if_neg (by simp), if_pos rfl, scanL, if_pos (by simp)]; congr 1; omega
          rw [cutR_at hs, hEq, htk, hdr]
          simp only [readR_quote]
          cases hq : (unquoteR (34 :: (X ++ [34]))).2 == 0
          · simp
          · have hbe : behind (34 :: T) = (R.length != 0) := by
              unfold behind; rw [hEq, hat, hlen]
              cases R <;> simp
            rw [hbe]
            cases R with
            | nil => simp only [Bool.true_and]; rw [if_neg (by simp), restF_nil]; rfl
            | cons d R => rw [decide_eq_true hlt]; simp
        · have hbe : behind (34 :: T) = false := by
            unfold behind; rw [hEq, hat, hlen]; simp [h32]
          rw [hbe, Bool.and_false, if_pos]
          · rfl
          · have : ∃ Y, (cutR (34 :: T)).1 = 34 :: (X ++ 34 :: c :: Y) := by
              rcases scanL_range (34 :: T) false 0 with hs | ⟨k, hs, hk⟩
              · exact ⟨R, by rw [cutR_none hs, h1]⟩
              · rw [Nat.zero_add] at hs
                have hk2 : X.length + 3 ≤ k := by
                  have h := hs
                  rw [h1, hscan, scanL, if_neg (by simp), if_pos rfl, scanL, if_neg (by simp [h32]), if_neg hc] at h
                  rcases scanL_range R (!true) (1 + X.length + 1 + 1) with h' | ⟨j, h', _⟩
                  · rw [h'] at h; omega
                  · rw [h'] at h; omega
                refine ⟨R.take (k - (X.length + 3)), ?_⟩
                rw [cutR_at hs, h1]
                obtain ⟨j, rfl⟩ : ∃ j, k = X.length + 3 + j := ⟨k - (X.length + 3), by omega⟩
                rw [show X.length + 3 + j = (X.length + (j + 2)) + 1 by omega, List.take_succ_cons, List.take_length_add_append]
                simp; omega
            obtain ⟨Y, hY⟩ := this
            rw [hY, readR_quote, unquoteR_bad hu hc]; rfl
  · have hX : fieldX l = (bareB (l.take (endL l)), false, l.take (endL l)) := by unfold fieldX; rw [if_neg h34]
    rw [hX]
    by_cases hb : bareB (l.take (endL l)) = true
    · rw [scan_bare_cut h34 hb, hb]
      have hh : (l.take (endL l)).head? ≠ some 34 := by
        intro e
        cases hl : l.take (endL l) with
        | nil => rw [hl] at e; cases e
        | cons c P => rw [hl] at e; exact (bareB_no hb c (by rw [hl]; simp)).2 (Option.some.inj e)
      simp only [readR_other hh, hb, if_true]
      have hE : endL l = endB l := by unfold endL; rw [if_neg h34]
      rcases (endB_split l).2 with h | h
      · have hbe : behind l = true := by unfold behind; rw [hE, h]; simp
        rw [hbe, hE, h]; simp
      · rw [← hE] at h
        have hlt : endL l < l.length := (List.getElem?_eq_some_iff.1 h).1
        have hbe : behind l = (endL l + 1 != l.length) := by
          unfold behind; rw [h]
          have : (endL l == l.length) = false := beq_eq_false_iff_ne.2 (by omega)
          rw [this]; simp
        rw [hbe]
        by_cases he : endL l + 1 = l.length
        · rw [he, List.drop_length]
          simp [restF_nil, hlt]
        · have : (endL l + 1 != l.length) = true := by simpa using he
          rw [this]; simp [hlt]
    · simp only [Bool.not_eq_true] at hb
      rw [hb]
      have hno : (readR (cutR l).1).2.2 = false := by
        have hh : (cutR l).1.head? ≠ some 34 := by
          cases l with
          | nil => exact absurd rfl hne
          | cons c r =>
            rcases scanL_range (c :: r) false 0 with hs | ⟨k, hs, hk⟩
            · rw [cutR_none hs]; exact h34
            · rw [Nat.zero_add] at hs; rw [cutR_at hs]
              cases k with
              | zero => simp
              | succ k => simpa using h34
        rw [readR_other hh]
        show bareB (cutR l).1 = false
        by_cases hb2 : bareB (cutR l).1 = true
        · rw [cutR_bare h34 hb2] at hb2; rw [hb2] at hb; cases hb
        · simpa using hb2
      rw [if_pos hno]; simp
end Go.Proofs.YtgldpdbdgjehkaaGreatDoor
