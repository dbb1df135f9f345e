/- The order of the expressions: shorter ones first, of one length the lesser one. -/
import Derived.Test.YtgldpdbdgjehkaaGreatDoorCMath
namespace Go.Proofs.YtgldpdbdgjehkaaGreatDoor
open Go

theorem less_irrefl : ∀ a : List UInt8, Op.bytesLess a a = false
  | [] => rfl
  | a :: x => by rw [Op.bytesLess, less_irrefl x]; simp
theorem less_trans : ∀ {a b c : List UInt8}, Op.bytesLess a b = true → Op.bytesLess b c = true → Op.bytesLess a c = true
  | a, b, [], h1, h2 => by cases b <;> cases h2
  | a, [], c :: z, h1, h2 => by cases a <;> cases h1
  | [], b :: y, c :: z, h1, h2 => rfl
  | a :: x, b :: y, c :: z, h1, h2 => by
    rw [Op.bytesLess] at h1 h2 ⊢
    simp only [Bool.or_eq_true, decide_eq_true_eq, Bool.and_eq_true, beq_iff_eq] at h1 h2 ⊢
    rcases h1 with h1 | ⟨rfl, h1⟩
    · rcases h2 with h2 | ⟨rfl, h2⟩
      · exact .inl (UInt8.lt_trans h1 h2)
      · exact .inl h1
    · rcases h2 with h2 | ⟨rfl, h2⟩
      · exact .inl h2
      · exact .inr ⟨rfl, less_trans h1 h2⟩
theorem less_tri : ∀ a b : List UInt8, Op.bytesLess a b = true ∨ a = b ∨ Op.bytesLess b a = true
  | [], [] => .inr (.inl rfl)
  | [], _ :: _ => .inl rfl
  | _ :: _, [] => .inr (.inr rfl)
  | a :: x, b :: y => by
    simp only [Op.bytesLess, Bool.or_eq_true, decide_eq_true_eq, Bool.and_eq_true, beq_iff_eq]
    have tri : a < b ∨ a = b ∨ b < a := by
      rcases Nat.lt_trichotomy a.toNat b.toNat with h | h | h
      · exact .inl (UInt8.lt_iff_toNat_lt.2 h)
      · exact .inr (.inl (UInt8.toNat_inj.1 h))
      · exact .inr (.inr (UInt8.lt_iff_toNat_lt.2 h))
    rcases tri with h | rfl | h
    · exact .inl (.inl h)
    · rcases less_tri x y with h | rfl | h
      · exact .inl (.inr ⟨rfl, h⟩)
      · exact .inr (.inl rfl)
      · exact .inr (.inr (.inr ⟨rfl, h⟩))
    · exact .inr (.inr (.inl h))
/-- a does not come after b. -/
def le (a b : List UInt8) : Prop := beforeB b a = false
theorem beforeB_iff (a b : List UInt8) : beforeB a b = true ↔ a.length < b.length ∨ (a.length = b.length ∧ Op.bytesLess a b = true) := by
  simp [beforeB]
theorem le_iff (a b : List UInt8) : le a b ↔ a.length < b.length ∨ (a.length = b.length ∧ (a = b ∨ Op.bytesLess a b = true)) := by
  unfold le
  rw [← Bool.not_eq_true, beforeB_iff]
  constructor
  · intro h
    by_cases h1 : a.length < b.length
    · exact .inl h1
    · have h2 : a.length = b.length := by
        rcases Nat.lt_trichotomy a.length b.length with h3 | h3 | h3
        · exact absurd h3 h1
        · exact h3
        · exact absurd (.inl h3) h
      refine .inr ⟨h2, ?_⟩
      rcases less_tri a b with h3 | h3 | h3
      · exact .inr h3
      · exact .inl h3
      · exact absurd (.inr ⟨h2.symm, h3⟩) h
  · rintro (h | ⟨h1, h2⟩) (h3 | ⟨h3, h4⟩)
    · omega
    · omega
    · omega
    · rcases h2 with rfl | h2
      · rw [less_irrefl] at h4; cases h4
      · have := less_trans h2 h4; rw [less_irrefl] at this; cases this
theorem le_refl (a : List UInt8) : le a a := (le_iff a a).2 (.inr ⟨rfl, .inl rfl⟩)
theorem le_trans {a b c : List UInt8} (h1 : le a b) (h2 : le b c) : le a c := by
  rw [le_iff] at h1 h2 ⊢
  rcases h1 with h1 | ⟨e1, h1⟩
  · rcases h2 with h2 | ⟨e2, h2⟩ <;> exact .inl (by omega)
  · rcases h2 with h2 | ⟨e2, h2⟩
    · exact .inl (by omega)
    · refine .inr ⟨by omega, ?_⟩
      rcases h1 with rfl | h1
      · exact h2
      · rcases h2 with rfl | h2
        · exact .inr h1
        · exact .inr (less_trans h1 h2)
theorem le_total {a b : List UInt8} (h : ¬ le a b) : le b a := by
  unfold le at h
  have h1 := (beforeB_iff b a).1 (by simpa using h)
  rw [le_iff]
  rcases h1 with h1 | ⟨h1, h2⟩
  · exact .inl h1
  · exact .inr ⟨h1, .inr h2⟩
theorem less_prefix : ∀ (p : List UInt8) {a b : List UInt8}, Op.bytesLess a b = true → Op.bytesLess (p ++ a) (p ++ b) = true
  | [], _, _, h => h
  | c :: p, a, b, h => by rw [List.cons_append, List.cons_append, Op.bytesLess, less_prefix p h]; simp
theorem le_prefix (p : List UInt8) {a b : List UInt8} (h : le a b) : le (p ++ a) (p ++ b) := by
  rw [le_iff] at h ⊢
  simp only [List.length_append]
  rcases h with h | ⟨h1, h2⟩
  · exact .inl (by omega)
  · refine .inr ⟨by omega, ?_⟩
    rcases h2 with rfl | h2
    · exact .inl rfl
    · exact .inr (less_prefix p h2)
theorem upd_le {b s : List UInt8} (hb : b ≠ []) : le (upd b s) b ∧ le (upd b s) s ∧ (upd b s = b ∨ upd b s = s) := by
  unfold upd
  by_cases h : b = [] ∨ beforeB s b = true
  · rw [if_pos h]
    rcases h with h | h
    · exact absurd h hb
    · exact ⟨(le_iff s b).2 ((beforeB_iff s b).1 h |>.imp id fun h => ⟨h.1, .inr h.2⟩), le_refl s, .inr rfl⟩
  · rw [if_neg h]
    exact ⟨le_refl b, by unfold le; have := fun e => h (.inr e); simpa using this, .inl rfl⟩
theorem fold_best : ∀ (cs : List (List UInt8)) (b : List UInt8), b ≠ [] → (∀ c ∈ cs, c ≠ []) →
    let r := cs.foldl upd b
    (r = b ∨ r ∈ cs) ∧ le r b ∧ ∀ c ∈ cs, le r c
  | [], b, _, _ => ⟨.inl rfl, le_refl b, fun c hc => by cases hc⟩
  | s :: cs, b, hb, hc => by
    obtain ⟨h1, h2, h3⟩ := upd_le (s := s) hb
    have hn : upd b s ≠ [] := by
      rcases h3 with h | h
      · rw [h]; exact hb
      · rw [h]; exact hc s (by simp)
    obtain ⟨r1, r2, r3⟩ := fold_best cs (upd b s) hn (fun c h => hc c (by simp [h]))
    refine ⟨?_, le_trans r2 h1, fun c h => ?_⟩
    · rcases r1 with r1 | r1
      · rcases h3 with h | h
        · exact .inl (r1.trans h)
        · exact .inr (by rw [List.foldl_cons, r1, h]; simp)
      · exact .inr (by rw [List.foldl_cons]; simp [r1])
    · rcases List.mem_cons.1 h with rfl | h
      · exact le_trans r2 h2
      · exact r3 c h

/-- A text, and the best expression of the numbers behind it. -/
def glue (t : List UInt8) (l : List Int) : List UInt8 := t ++ if l = [] then [] else 44 :: canonL l
theorem bests_get : ∀ (l : List Int) (k : Nat), (bests l)[k]?.getD [] = canonL (l.drop k)
  | [], 0 => rfl
  | [], k + 1 => by simp [bests, canonL]
  | x :: r, 0 => by simp [canonL]; cases h : bests (x :: r) <;> simp
  | x :: r, k + 1 => by
    have := bests_get r k
    simpa [bests] using this
theorem cand_glue (x : Int) (r : List Int) (it : It) (h : 1 ≤ it.count) (hc : it.count ≤ r.length + 1) : cand (bests r) (r.length + 1) it = glue it.text ((x :: r).drop it.count) := by
  unfold cand glue
  obtain ⟨c, hcc⟩ : ∃ c, it.count = c + 1 := ⟨it.count - 1, by omega⟩
  rw [hcc, Nat.add_sub_cancel, bests_get, List.drop_succ_cons]
  by_cases h1 : c + 1 < r.length + 1
  · rw [if_pos h1, if_neg]
    intro e; have := congrArg List.length e; simp at this; omega
  · rw [if_neg h1, if_pos (List.drop_of_length_le (by omega))]
/-- The best expression is one of those that begin with an item, and none of them comes before it. -/
theorem canon_best (l : List Int) (h0 : l ≠ []) (hg : ∀ it ∈ itemsL l, 1 ≤ it.count ∧ it.count ≤ l.length ∧ it.text ≠ []) :
    (∃ it ∈ itemsL l, canonL l = glue it.text (l.drop it.count)) ∧ ∀ it ∈ itemsL l, le (canonL l) (glue it.text (l.drop it.count)) := by
  cases l with
  | nil => exact absurd rfl h0
  | cons x r =>
    have e : canonL (x :: r) = (itemsL (x :: r)).foldl (fun b it => upd b (glue it.text ((x :: r).drop it.count))) [] := by
      show (itemsL (x :: r)).foldl (fun b it => upd b (cand (bests r) (r.length + 1) it)) [] = _
      have : ∀ (its : List It) (b : List UInt8), (∀ it ∈ its, 1 ≤ it.count ∧ it.count ≤ r.length + 1) → its.foldl (fun b it => upd b (cand (bests r) (r.length + 1) it)) b = its.foldl (fun b it => upd b (glue it.text ((x :: r).drop it.count))) b := by
        intro its
        induction its with
        | nil => intro b _; rfl
        | cons i t ih =>
          intro b h
          rw [List.foldl_cons, List.foldl_cons, cand_glue x r i (h i (by simp)).1 (h i (by simp)).2]
          exact ih _ (fun j hj => h j (by simp [hj]))
      exact this _ _ (fun it hit => ⟨(hg it hit).1, (hg it hit).2.1⟩)
    have hmap : canonL (x :: r) = ((itemsL (x :: r)).map fun it => glue it.text ((x :: r).drop it.count)).foldl upd [] := by rw [e, List.foldl_map]
    have hne : ∀ it ∈ itemsL (x :: r), glue it.text ((x :: r).drop it.count) ≠ [] := fun it hit he => (hg it hit).2.2 (List.append_eq_nil_iff.1 he).1
    rw [hmap]
    generalize hits : itemsL (x :: r) = its at hne
    cases its with
    | nil => unfold itemsL at hits; simp at hits
    | cons i t =>
      rw [List.map_cons, List.foldl_cons]
      have hu : upd [] (glue i.text ((x :: r).drop i.count)) = glue i.text ((x :: r).drop i.count) := by unfold upd; rw [if_pos (.inl rfl)]
      rw [hu]
      obtain ⟨r1, r2, r3⟩ := fold_best (t.map fun it => glue it.text ((x :: r).drop it.count)) (glue i.text ((x :: r).drop i.count)) (hne i (by simp)) (by
        intro c hc
        obtain ⟨j, hj, rfl⟩ := List.mem_map.1 hc
        exact hne j (by simp [hj]))
      refine ⟨?_, fun it hit => ?_⟩
      · rcases r1 with r1 | r1
        · exact ⟨i, by simp, r1⟩
        · obtain ⟨j, hj, e⟩ := List.mem_map.1 r1
          exact ⟨j, by simp [hj], e.symm⟩
      · rcases List.mem_cons.1 hit with rfl | hit
        · exact r2
        · exact r3 _ (List.mem_map_of_mem hit)
end Go.Proofs.YtgldpdbdgjehkaaGreatDoor
