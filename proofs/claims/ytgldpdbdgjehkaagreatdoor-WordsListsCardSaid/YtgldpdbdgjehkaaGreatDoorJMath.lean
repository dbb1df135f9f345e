/- Join of the fields of a line is the line, and Split of a joined line is its fields. -/
import Derived.Test.YtgldpdbdgjehkaaGreatDoorSMath
namespace Go.Proofs.YtgldpdbdgjehkaaGreatDoor
open Go.RowKit

/-- How a field is written, and whether it is one. -/
def writeR (f : Fld) : List UInt8 × Bool := if f.1 then ((quoteR f.2).1, (quoteR f.2).2 == 0) else (f.2, bareB f.2)
def lineW (fs : List Fld) : List UInt8 := fs.flatMap fun f => 32 :: (writeR f).1
/-- The line of these fields. -/
def lineOf (fs : List Fld) : List UInt8 := (lineW fs).drop 1
def joinR (fs : List Fld) : List UInt8 × Int :=
  if 64 < fs.length then ([], 3) else if fs.any (fun f => !(writeR f).2) then ([], 2) else if 4096 < (lineOf fs).length then ([], 3) else (lineOf fs, 0)
theorem lineW_nil_iff (fs : List Fld) : lineW fs = [] ↔ fs = [] := by
  cases fs with
  | nil => exact ⟨fun _ => rfl, fun _ => rfl⟩
  | cons f r => simp [lineW]
theorem lineOf_snoc (fs : List Fld) (f : Fld) : lineOf (fs ++ [f]) = (if fs = [] then [] else lineOf fs ++ [32]) ++ (writeR f).1 := by
  unfold lineOf
  have e : lineW (fs ++ [f]) = lineW fs ++ 32 :: (writeR f).1 := by simp [lineW]
  rw [e]
  by_cases h : fs = []
  · subst h; rfl
  · rw [if_neg h]
    have hn := mt (lineW_nil_iff fs).1 h
    cases hw : lineW fs with
    | nil => exact absurd hw hn
    | cons c r => simp
theorem lineOf_cons (f : Fld) (fs : List Fld) : lineOf (f :: fs) = (writeR f).1 ++ lineW fs := rfl
theorem lineW_cons (fs : List Fld) (h : fs ≠ []) : lineW fs = 32 :: lineOf fs := by
  cases fs with
  | nil => exact absurd rfl h
  | cons f r => rfl
theorem quoteR_of {s : List UInt8} (h : textB s = true) : quoteR s = (quoteL s, 0) := by unfold quoteR; rw [if_pos h]
theorem quoteR_no {s : List UInt8} (h : textB s = false) : quoteR s = ([], 2) := by unfold quoteR; rw [h]; rfl
/-- What was unquoted is quoted as it was. -/
theorem unquoteR_ok {l : List UInt8} (h : (unquoteR l).2 = 0) : textB (unquoteR l).1 = true ∧ quoteL (unquoteR l).1 = l := by
  unfold unquoteR at h ⊢
  by_cases h2 : l.length < 2
  · rw [if_pos h2] at h; cases h
  · rw [if_neg h2] at h ⊢
    split at h
    · rename_i hc
      rw [if_pos hc]
      simpa using hc
    · cases h
theorem unquoteR_quoteL (s : List UInt8) (h : textB s = true) : unquoteR (quoteL s) = (s, 0) := by
  rw [quoteL, unquoteR_in, uq_dbl]; simp [h]
theorem readR_write {l : List UInt8} (h : (readR l).2.2 = true) : writeR ((readR l).1, (readR l).2.1) = (l, true) := by
  unfold readR at h ⊢
  by_cases hb : bareB l = true
  · rw [if_pos hb]; simp [writeR, hb]
  · rw [if_neg hb] at h ⊢
    simp only [beq_iff_eq] at h
    obtain ⟨h1, h2⟩ := unquoteR_ok h
    simp only [h, writeR, quoteR_of h1, h2]
    simp
theorem writeR_read {f : Fld} (h : (writeR f).2 = true) : readR (writeR f).1 = (f.1, f.2, true) := by
  obtain ⟨q, s⟩ := f
  unfold writeR at h ⊢
  cases q
  · simp only [Bool.false_eq_true, if_false] at h ⊢
    unfold readR; rw [if_pos h]
  · simp only [if_true] at h ⊢
    cases ht : textB s
    · rw [quoteR_no ht] at h; cases h
    · rw [quoteR_of ht]
      have : quoteL s = 34 :: (dbl s ++ [34]) := rfl
      simp only
      rw [this, readR_quote, ← this, unquoteR_quoteL s ht]; rfl
theorem scanL_hit : ∀ (l : List UInt8) (b : Bool) (i k : Nat), scanL l b i = ((i + k : Nat) : Int) → l[k]? = some 32
  | [], b, i, k, h => by simp [scanL] at h; omega
  | c :: l, b, i, k, h => by
    rw [scanL] at h
    split at h
    · rename_i hc; obtain rfl : k = 0 := by omega
      rw [hc.1]; rfl
    · rcases scanL_range l (if c = 34 then !b else b) (i + 1) with h' | ⟨j, h', hj⟩
      · rw [h'] at h; omega
      · obtain rfl : k = j + 1 := by rw [h'] at h; omega
        rw [List.getElem?_cons_succ]
        exact scanL_hit l _ (i + 1) j h'
theorem cutR_join (l : List UInt8) : l = (cutR l).1 ++ if (cutR l).2.2 then 32 :: (cutR l).2.1 else [] := by
  rcases scanL_range l false 0 with h | ⟨k, h, hk⟩
  · rw [cutR_none h]; simp
  · have h32 := scanL_hit l false 0 k h
    rw [Nat.zero_add] at h
    rw [cutR_at h]
    exact take_drop_at h32
theorem splitF_line : ∀ (n : Nat) (l : List UInt8) (fs : List Fld), splitF n l = some fs → fs ≠ [] ∧ (∀ f ∈ fs, (writeR f).2 = true) ∧ lineOf fs = l
  | 0, l, fs, h => by cases h
  | n + 1, l, fs, h => by
    have hj := cutR_join l
    rw [splitF] at h
    by_cases h1 : (readR (cutR l).1).2.2 = false
    · rw [if_pos h1] at h; cases h
    · rw [if_neg h1] at h
      have hw := readR_write (by simpa using h1)
      by_cases h2 : (cutR l).2.2 = true
      · rw [if_pos h2] at h hj
        obtain ⟨r, hr, rfl⟩ := Option.map_eq_some_iff.1 h
        obtain ⟨i1, i2, i3⟩ := splitF_line n _ _ hr
        refine ⟨by simp, ?_, ?_⟩
        · intro f hf
          rcases List.mem_cons.1 hf with rfl | hf
          · rw [hw]
          · exact i2 f hf
        · rw [lineOf_cons, hw, lineW_cons r i1, i3]; exact hj.symm
      · rw [if_neg h2] at h hj
        cases h
        refine ⟨by simp, ?_, ?_⟩
        · intro f hf
          obtain rfl := List.mem_singleton.1 hf
          rw [hw]
        · rw [lineOf_cons, hw]
          exact hj.symm
theorem join_split {l : List UInt8} (h : (splitR l).2 = 0) : joinR (splitR l).1 = (l, 0) := by
  unfold splitR at h ⊢
  by_cases h1 : 4096 < l.length
  · rw [if_pos h1] at h; cases h
  · rw [if_neg h1] at h ⊢
    by_cases h0 : l = []
    · subst h0; rfl
    · rw [if_neg h0] at h ⊢
      cases hf : splitF (l.length + 1) l with
      | none => rw [hf] at h; cases h
      | some fs =>
        rw [hf] at h
        simp only at h ⊢
        by_cases h64 : 64 < fs.length
        · rw [if_pos h64] at h; cases h
        · rw [if_neg h64]
          obtain ⟨i1, i2, i3⟩ := splitF_line _ _ _ hf
          unfold joinR
          simp only
          rw [if_neg h64, if_neg, i3, if_neg h1]
          rw [List.any_eq_true]
          rintro ⟨f, hf, hn⟩
          rw [i2 f hf] at hn; cases hn
theorem cut_write {f : Fld} (h : (writeR f).2 = true) : cutR (writeR f).1 = ((writeR f).1, [], false) ∧ ∀ R, cutR ((writeR f).1 ++ 32 :: R) = ((writeR f).1, R, true) := by
  obtain ⟨q, s⟩ := f
  unfold writeR at h ⊢
  cases q
  · simp only [Bool.false_eq_true, if_false] at h ⊢
    have hno := bareB_no h
    refine ⟨cutR_none ?_, fun R => ?_⟩
    · have := scan_bare s [] 0 hno; rw [List.append_nil] at this; exact this.trans rfl
    · have := scan_bare s (32 :: R) 0 hno
      rw [scanL, if_pos (by simp), Nat.zero_add] at this
      rw [cutR_at this]
      refine Prod.ext ?_ (Prod.ext ?_ rfl)
      · simp
      · show (s ++ 32 :: R).drop (s.length + 1) = R; simp [List.drop_append]
  · simp only [if_true] at h ⊢
    cases ht : textB s
    · rw [quoteR_no ht] at h; cases h
    · rw [quoteR_of ht]
      simp only
      have hsc : ∀ R, scanL (quoteL s ++ R) false 0 = scanL R false (quoteL s).length := by
        intro R
        have : quoteL s ++ R = 34 :: (dbl s ++ (34 :: R)) := by simp [quoteL]
        rw [this, scanL, if_neg (by simp), if_pos rfl]
        have h2 := scan_uq _ (dbl s) s (34 :: R) 1 (Nat.le_refl _) (uq_dbl s)
        simp only [Bool.not_false, Nat.zero_add] at h2 ⊢
        rw [h2, scanL, if_neg (by simp), if_pos rfl]
        simp only [Bool.not_true]
        congr 1; simp [quoteL]; omega
      refine ⟨cutR_none ?_, fun R => ?_⟩
      · have := hsc []; rw [List.append_nil] at this; exact this.trans rfl
      · have := hsc (32 :: R)
        rw [scanL, if_pos (by simp)] at this
        rw [cutR_at this]
        refine Prod.ext ?_ (Prod.ext ?_ rfl)
        · simp
        · show (quoteL s ++ 32 :: R).drop ((quoteL s).length + 1) = R; simp [List.drop_append]
theorem split_line : ∀ (fs : List Fld) (n : Nat), fs ≠ [] → fs.length ≤ n → (∀ f ∈ fs, (writeR f).2 = true) → splitF n (lineOf fs) = some fs
  | [], n, h, _, _ => absurd rfl h
  | f :: fs, 0, _, hn, _ => by simp at hn
  | f :: fs, n + 1, _, hn, hw => by
    have hf := hw f (by simp)
    have ⟨c1, c2⟩ := cut_write hf
    have hr := writeR_read hf
    rw [lineOf_cons, splitF]
    by_cases h0 : fs = []
    · subst h0
      have e : (writeR f).1 ++ lineW [] = (writeR f).1 := by simp [lineW]
      rw [e, c1, hr]; rfl
    · rw [lineW_cons fs h0, c2, hr]
      have := split_line fs n h0 (by simpa using hn) (fun x hx => hw x (by simp [hx]))
      simp only
      rw [this]; rfl
theorem lineW_len (fs : List Fld) : fs.length ≤ (lineW fs).length := by
  induction fs with
  | nil => simp
  | cons f r ih => simp only [lineW, List.flatMap_cons, List.length_append, List.length_cons] at ih ⊢; omega
theorem split_join {fs : List Fld} (h : (joinR fs).2 = 0) : splitR (joinR fs).1 = (fs, 0) := by
  unfold joinR at h ⊢
  by_cases h1 : 64 < fs.length
  · rw [if_pos h1] at h; cases h
  · rw [if_neg h1] at h ⊢
    by_cases h2 : fs.any (fun f => !(writeR f).2) = true
    · rw [if_pos h2] at h; cases h
    · rw [if_neg h2] at h ⊢
      by_cases h3 : 4096 < (lineOf fs).length
      · rw [if_pos h3] at h; cases h
      · rw [if_neg h3]
        have hw : ∀ f ∈ fs, (writeR f).2 = true := by
          intro f hf
          simp only [Bool.not_eq_true, List.any_eq_false] at h2
          have := h2 f hf
          simpa using this
        simp only
        by_cases h0 : fs = []
        · subst h0; rfl
        · have hl : lineOf fs ≠ [] := by
            cases fs with
            | nil => exact absurd rfl h0
            | cons f r =>
              intro e
              rw [lineOf_cons] at e
              have e1 := (List.append_eq_nil_iff.1 e).1
              have := writeR_read (hw f (by simp))
              rw [e1] at this
              have h2 : (readR []).2.2 = false := rfl
              rw [this] at h2; cases h2
          have hlen : (lineW fs).length = (lineOf fs).length + 1 := by
            rw [lineW_cons fs h0]; rfl
          have := split_line fs ((lineOf fs).length + 1) h0 (by have := lineW_len fs; omega) hw
          unfold splitR
          rw [if_neg h3, if_neg hl, this]
          simp only
          rw [if_neg h1]
end Go.Proofs.YtgldpdbdgjehkaaGreatDoor
