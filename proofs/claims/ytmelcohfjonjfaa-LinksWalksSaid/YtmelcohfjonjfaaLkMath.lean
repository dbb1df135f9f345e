/- links: what linking and unlinking a slot do to the lists of slots: plain mathematics. -/
import Derived.Test.YtmelcohfjonjfaaRows
namespace Go.Proofs.Ytmelcohfjonjfaa

/-- The first of a list of slots, or -1. -/
def hd : List Nat → Int
  | [] => -1
  | a :: _ => (a : Int)
/-- The last one, or -1. -/
def lst : List Nat → Int
  | [] => -1
  | [a] => (a : Int)
  | _ :: b :: l => lst (b :: l)
/-- The slot after y, or -1. -/
def nx : List Nat → Nat → Int
  | [], _ => -1
  | a :: l, y => if a = y then hd l else nx l y
/-- The slot before y, where b is the one before the list. -/
def pvB (b : Int) : List Nat → Nat → Int
  | [], _ => -1
  | a :: l, y => if a = y then b else pvB (a : Int) l y
def pv (l : List Nat) (y : Nat) : Int := pvB (-1) l y
theorem nx_out : ∀ {l : List Nat} {y : Nat}, y ∉ l → nx l y = -1
  | [], _, _ => rfl
  | a :: l, y, h => by
    unfold nx
    rw [if_neg (fun e : a = y => h (e ▸ List.mem_cons_self ..)), nx_out (fun e => h (List.mem_cons_of_mem _ e))]
theorem pvB_out : ∀ {l : List Nat} {b : Int} {y : Nat}, y ∉ l → pvB b l y = -1
  | [], _, _, _ => rfl
  | a :: l, b, y, h => by
    unfold pvB
    rw [if_neg (fun e : a = y => h (e ▸ List.mem_cons_self ..)), pvB_out (fun e => h (List.mem_cons_of_mem _ e))]
theorem hd_append (l m : List Nat) : hd (l ++ m) = if l = [] then hd m else hd l := by
  cases l with
  | nil => rfl
  | cons a l => simp [hd]
theorem lst_cons (a : Nat) (l : List Nat) : lst (a :: l) = if l = [] then (a : Int) else lst l := by
  cases l with
  | nil => rfl
  | cons b l => simp [lst]
theorem lst_append : ∀ (l m : List Nat), lst (l ++ m) = if m = [] then lst l else lst m
  | [], m => by by_cases h : m = [] <;> simp [h, lst]
  | a :: l, m => by
    rw [List.cons_append, lst_cons, lst_cons, lst_append l m]
    by_cases h : m = [] <;> simp [h]
theorem hd_mem {l : List Nat} (h : l ≠ []) : ∃ a, a ∈ l ∧ hd l = (a : Int) := by
  cases l with
  | nil => exact absurd rfl h
  | cons a l => exact ⟨a, List.mem_cons_self .., rfl⟩
theorem lst_mem : ∀ {l : List Nat}, l ≠ [] → ∃ a, a ∈ l ∧ lst l = (a : Int)
  | [], h => absurd rfl h
  | [a], _ => ⟨a, List.mem_cons_self .., rfl⟩
  | a :: b :: l, _ => by
    obtain ⟨c, hc, e⟩ := lst_mem (l := b :: l) (by simp)
    exact ⟨c, List.mem_cons_of_mem _ hc, e⟩
theorem hd_none {l : List Nat} : hd l = -1 ↔ l = [] := by
  cases l with
  | nil => simp [hd]
  | cons a l => simp only [hd, reduceCtorEq]
theorem lst_none {l : List Nat} : lst l = -1 ↔ l = [] := by
  constructor
  · intro h
    by_cases hl : l = []
    · exact hl
    · obtain ⟨a, _, e⟩ := lst_mem hl; omega
  · rintro rfl; rfl
theorem nx_append : ∀ {l m : List Nat} {y : Nat}, (l ++ m).Nodup → nx (l ++ m) y = if y ∈ l then (if (y : Int) = lst l then hd m else nx l y) else nx m y
  | [], m, y, _ => by simp
  | a :: l, m, y, h => by
    rw [List.cons_append] at h ⊢
    obtain ⟨h1, h2⟩ := List.nodup_cons.1 h
    show (if a = y then hd (l ++ m) else nx (l ++ m) y) = _
    by_cases e : a = y
    · subst e
      rw [if_pos rfl, if_pos (List.mem_cons_self ..), hd_append, lst_cons]
      by_cases hl : l = []
      · simp [hl]
      · rw [if_neg hl, if_neg hl, if_neg]
        · show hd l = if a = a then hd l else nx l a
          rw [if_pos rfl]
        · intro e
          obtain ⟨c, hc, e2⟩ := lst_mem hl
          have : a = c := by omega
          exact h1 (by rw [this]; exact List.mem_append_left _ hc)
    · rw [if_neg e, nx_append h2]
      have hm : (y ∈ a :: l) ↔ y ∈ l := by rw [List.mem_cons]; exact ⟨fun h => h.resolve_left (fun h => e h.symm), Or.inr⟩
      by_cases hy : y ∈ l
      · rw [if_pos hy, if_pos (hm.2 hy), lst_cons, if_neg (List.ne_nil_of_mem hy)]
        show _ = if _ then _ else (if a = y then hd l else nx l y)
        rw [if_neg e]
      · rw [if_neg hy, if_neg (fun h => hy (hm.1 h))]
theorem pvB_append : ∀ {l m : List Nat} {b : Int} {y : Nat}, (l ++ m).Nodup → pvB b (l ++ m) y = if y ∈ l then pvB b l y else pvB (if l = [] then b else lst l) m y
  | [], m, b, y, _ => by simp
  | a :: l, m, b, y, h => by
    rw [List.cons_append] at h ⊢
    obtain ⟨h1, h2⟩ := List.nodup_cons.1 h
    show (if a = y then b else pvB (a : Int) (l ++ m) y) = _
    by_cases e : a = y
    · subst e
      rw [if_pos rfl, if_pos (List.mem_cons_self ..)]
      show b = if a = a then b else _
      rw [if_pos rfl]
    · rw [if_neg e, pvB_append h2]
      have hm : (y ∈ a :: l) ↔ y ∈ l := by rw [List.mem_cons]; exact ⟨fun h => h.resolve_left (fun h => e h.symm), Or.inr⟩
      by_cases hy : y ∈ l
      · rw [if_pos hy, if_pos (hm.2 hy)]
        show _ = if a = y then b else _
        rw [if_neg e]
      · rw [if_neg hy, if_neg (fun h => hy (hm.1 h)), if_neg (List.cons_ne_nil _ _), lst_cons]
/-- A slot put between l and m. -/
theorem nx_ins {l m : List Nat} {x : Nat} (h : (l ++ x :: m).Nodup) (y : Nat) : nx (l ++ x :: m) y = if y = x then hd m else if l ≠ [] ∧ (y : Int) = lst l then (x : Int) else nx (l ++ m) y := by
  have h2 : (l ++ m).Nodup := by
    have := (List.nodup_append.1 h)
    exact List.nodup_append.2 ⟨this.1, (List.nodup_cons.1 this.2.1).2, fun a ha b hb => this.2.2 a ha b (List.mem_cons_of_mem _ hb)⟩
  have hxl : x ∉ l := fun hx => (List.nodup_append.1 h).2.2 x hx x (List.mem_cons_self ..) rfl
  have hxm : x ∉ m := (List.nodup_cons.1 (List.nodup_append.1 h).2.1).1
  rw [nx_append h, nx_append h2]
  by_cases hy : y ∈ l
  · have hyx : y ≠ x := fun e => hxl (e ▸ hy)
    rw [if_pos hy, if_neg hyx, if_pos hy]
    have hne : l ≠ [] := List.ne_nil_of_mem hy
    by_cases e : (y : Int) = lst l
    · rw [if_pos e, if_pos ⟨hne, e⟩]; rfl
    · rw [if_neg e, if_neg (fun h => e h.2), if_neg e]
  · rw [if_neg hy, if_neg hy]
    show (if x = y then hd m else nx m y) = _
    by_cases e : y = x
    · rw [if_pos e.symm, if_pos e]
    · rw [if_neg (fun h => e h.symm), if_neg e, if_neg]
      rintro ⟨hne, e2⟩
      obtain ⟨c, hc, e3⟩ := lst_mem hne
      exact hy (by rw [show y = c by omega]; exact hc)
theorem pv_ins {l m : List Nat} {x : Nat} (h : (l ++ x :: m).Nodup) (y : Nat) : pv (l ++ x :: m) y = if y = x then lst l else if m ≠ [] ∧ (y : Int) = hd m then (x : Int) else pv (l ++ m) y := by
  have h2 : (l ++ m).Nodup := by
    have := (List.nodup_append.1 h)
    exact List.nodup_append.2 ⟨this.1, (List.nodup_cons.1 this.2.1).2, fun a ha b hb => this.2.2 a ha b (List.mem_cons_of_mem _ hb)⟩
  have hxl : x ∉ l := fun hx => (List.nodup_append.1 h).2.2 x hx x (List.mem_cons_self ..) rfl
  have hll : (if l = [] then (-1 : Int) else lst l) = lst l := by
    by_cases e : l = []
    · rw [if_pos e, e]; rfl
    · rw [if_neg e]
  unfold pv
  rw [pvB_append h, pvB_append h2, hll]
  by_cases hy : y ∈ l
  · have hyx : y ≠ x := fun e => hxl (e ▸ hy)
    rw [if_pos hy, if_neg hyx, if_pos hy, if_neg]
    rintro ⟨hne, e2⟩
    obtain ⟨c, hc, e3⟩ := hd_mem hne
    exact (List.nodup_append.1 h2).2.2 y hy c hc (by omega)
  · rw [if_neg hy, if_neg hy]
    show (if x = y then lst l else pvB (x : Int) m y) = _
    by_cases e : y = x
    · rw [if_pos e.symm, if_pos e]
    · rw [if_neg (fun h => e h.symm), if_neg e]
      cases m with
      | nil => simp [pvB]
      | cons c m =>
        show (if c = y then (x : Int) else pvB (c : Int) m y) = if _ then _ else (if c = y then lst l else pvB (c : Int) m y)
        by_cases ec : c = y
        · rw [if_pos ec, if_pos ⟨List.cons_ne_nil _ _, by rw [ec]; rfl⟩]
        · rw [if_neg ec, if_neg, if_neg ec]
          rintro ⟨_, e2⟩
          have : (y : Int) = (c : Int) := e2
          omega
/-- A pool's links, as functions. -/
structure LkF where
  list : Nat → Int
  next : Nat → Int
  prev : Nat → Int
  first : Nat → Int
  last : Nat → Int
def updF (f : Nat → Int) (k : Nat) (v : Int) : Nat → Int := fun j => if j = k then v else f j
theorem updF_same (f : Nat → Int) (k : Nat) (v : Int) : updF f k v k = v := if_pos rfl
theorem updF_other {f : Nat → Int} {k j : Nat} {v : Int} (h : j ≠ k) : updF f k v j = f j := if_neg h
/-- Two slots are made neighbours in a list. -/
def tieF (F : LkF) (l : Nat) (b a : Int) : LkF :=
  { list := F.list
    next := if b = -1 then F.next else updF F.next b.toNat a
    prev := if a = -1 then F.prev else updF F.prev a.toNat b
    first := if b = -1 then updF F.first l a else F.first
    last := if a = -1 then updF F.last l b else F.last }
def linkF (F : LkF) (x l : Nat) (b : Int) : LkF :=
  tieF (tieF { F with list := updF F.list x l } l b x) l x (if b = -1 then F.first l else F.next b.toNat)
def unlinkF (F : LkF) (x : Nat) : LkF :=
  let G := tieF F (F.list x).toNat (F.prev x) (F.next x)
  { G with list := updF G.list x (-1), prev := updF G.prev x (-1), next := updF G.next x (-1) }
/-- The links of these lists of slots. -/
structure Rep (n m : Nat) (of : Nat → List Nat) (F : LkF) : Prop where
  nodup : ∀ i, i < m → (of i).Nodup
  lt : ∀ i, i < m → ∀ x ∈ of i, x < n
  disj : ∀ i j, i < m → j < m → i ≠ j → ∀ x ∈ of i, x ∉ of j
  ends : ∀ i, i < m → F.first i = hd (of i) ∧ F.last i = lst (of i)
  used : ∀ i, i < m → ∀ x ∈ of i, F.list x = (i : Int) ∧ F.next x = nx (of i) x ∧ F.prev x = pv (of i) x
  free : ∀ x, x < n → (∀ i, i < m → x ∉ of i) → F.list x = -1 ∧ F.next x = -1 ∧ F.prev x = -1
def setOf (of : Nat → List Nat) (i : Nat) (l : List Nat) : Nat → List Nat := fun j => if j = i then l else of j
theorem toNat_cast (x : Nat) : (x : Int).toNat = x := Int.toNat_natCast x
theorem ne_none (x : Nat) : ¬ (x : Int) = -1 := by omega
theorem nodup_ins {l r : List Nat} {x : Nat} (h : (l ++ r).Nodup) (hx : x ∉ l ++ r) : (l ++ x :: r).Nodup := by
  obtain ⟨h1, h2, h3⟩ := List.nodup_append.1 h
  refine List.nodup_append.2 ⟨h1, List.nodup_cons.2 ⟨fun e => hx (List.mem_append_right _ e), h2⟩, fun a ha b hb => ?_⟩
  rcases List.mem_cons.1 hb with rfl | hb
  · exact fun e => hx (List.mem_append_left _ (e ▸ ha))
  · exact h3 a ha b hb
theorem lst_cast {l : List Nat} (h : l ≠ []) : ∃ b, b ∈ l ∧ lst l = (b : Int) := lst_mem h
theorem nx_last {l r : List Nat} (h : (l ++ r).Nodup) {b : Nat} (hb : b ∈ l) (e : lst l = (b : Int)) : nx (l ++ r) b = hd r := by rw [nx_append h, if_pos hb, if_pos e.symm]
theorem pv_first {l r : List Nat} (h : (l ++ r).Nodup) {a : Nat} (ha : a ∈ r) (e : hd r = (a : Int)) : pv (l ++ r) a = lst l := by
  unfold pv
  have hal : a ∉ l := fun hx => (List.nodup_append.1 h).2.2 a hx a ha rfl
  rw [pvB_append h, if_neg hal]
  cases r with
  | nil => cases ha
  | cons c r =>
    have : c = a := by have : (c : Int) = a := e; omega
    subst this
    show (if c = c then _ else _) = _
    rw [if_pos rfl]
    by_cases hl : l = []
    · rw [if_pos hl, hl]; rfl
    · rw [if_neg hl]
theorem rep_link {n m : Nat} {of : Nat → List Nat} {F : LkF} (h : Rep n m of F) {i x : Nat} {l r : List Nat} (hi : i < m) (hx : x < n) (hf : ∀ j, j < m → x ∉ of j) (hs : of i = l ++ r) :
    Rep n m (setOf of i (l ++ x :: r)) (linkF F x i (lst l)) := by
  have hnd : (l ++ r).Nodup := hs ▸ h.nodup i hi
  have hxo : x ∉ l ++ r := hs ▸ hf i hi
  have hni := nodup_ins hnd hxo
  -- the slot behind
  have ha : (if lst l = -1 then F.first i else F.next (lst l).toNat) = hd r := by
    by_cases hl : l = []
    · rw [if_pos (lst_none.2 hl), (h.ends i hi).1, hs, hl]; rfl
    · rw [if_neg (fun e => hl (lst_none.1 e))]
      obtain ⟨b, hb, e⟩ := lst_mem hl
      rw [e, toNat_cast, (h.used i hi b (by rw [hs]; exact List.mem_append_left _ hb)).2.1, hs, nx_last hnd hb e]
  have hmem : ∀ j, j < m → ∀ y, y ∈ setOf of i (l ++ x :: r) j ↔ (y = x ∧ j = i) ∨ y ∈ of j := by
    intro j hj y
    unfold setOf
    by_cases e : j = i
    · subst e
      rw [if_pos rfl, hs]
      simp [or_left_comm]
    · rw [if_neg e]
      simp [e]
  unfold linkF
  rw [ha]
  -- the fields
  have fnext : ∀ y, (tieF (tieF { F with list := updF F.list x i } i (lst l) x) i x (hd r)).next y = if y = x then hd r else if l ≠ [] ∧ (y : Int) = lst l then (x : Int) else F.next y := by
    intro y
    simp only [tieF, if_neg (ne_none x), toNat_cast]
    by_cases e : y = x
    · subst e; rw [updF_same, if_pos rfl]
    · rw [updF_other e, if_neg e]
      by_cases hl : l = []
      · rw [if_pos (lst_none.2 hl), if_neg (fun h => h.1 hl)]
      · rw [if_neg (fun e => hl (lst_none.1 e))]
        obtain ⟨b, hb, e2⟩ := lst_mem hl
        rw [e2, toNat_cast]
        by_cases e3 : y = b
        · subst e3; rw [updF_same, if_pos ⟨hl, rfl⟩]
        · rw [updF_other e3, if_neg (fun h => e3 (by have := h.2; omega))]
  have fprev : ∀ y, (tieF (tieF { F with list := updF F.list x i } i (lst l) x) i x (hd r)).prev y = if y = x then lst l else if r ≠ [] ∧ (y : Int) = hd r then (x : Int) else F.prev y := by
    intro y
    simp only [tieF, if_neg (ne_none x), toNat_cast]
    by_cases hr : r = []
    · rw [if_pos (hd_none.2 hr)]
      by_cases e : y = x
      · subst e; rw [updF_same, if_pos rfl]
      · rw [updF_other e, if_neg e, if_neg (fun h => h.1 hr)]
    · rw [if_neg (fun e => hr (hd_none.1 e))]
      obtain ⟨a, hra, e2⟩ := hd_mem hr
      have hax : a ≠ x := fun e => hxo (e ▸ List.mem_append_right _ hra)
      rw [e2, toNat_cast]
      by_cases e : y = x
      · subst e; rw [updF_other (fun e => hax e.symm), updF_same, if_pos rfl]
      · rw [if_neg e]
        by_cases e3 : y = a
        · subst e3; rw [updF_same, if_pos ⟨hr, rfl⟩]
        · rw [updF_other e3, updF_other e, if_neg (fun h => e3 (by have := h.2; omega))]
  have ffirst : ∀ j, (tieF (tieF { F with list := updF F.list x i } i (lst l) x) i x (hd r)).first j = if j = i ∧ l = [] then (x : Int) else F.first j := by
    intro j
    simp only [tieF, if_neg (ne_none x)]
    by_cases hl : l = []
    · rw [if_pos (lst_none.2 hl)]
      by_cases e : j = i
      · subst e; rw [updF_same, if_pos ⟨rfl, hl⟩]
      · rw [updF_other e, if_neg (fun h => e h.1)]
    · rw [if_neg (fun e => hl (lst_none.1 e)), if_neg (fun h => hl h.2)]
  have flast : ∀ j, (tieF (tieF { F with list := updF F.list x i } i (lst l) x) i x (hd r)).last j = if j = i ∧ r = [] then (x : Int) else F.last j := by
    intro j
    simp only [tieF, if_neg (ne_none x)]
    by_cases hr : r = []
    · rw [if_pos (hd_none.2 hr)]
      by_cases e : j = i
      · subst e; rw [updF_same, if_pos ⟨rfl, hr⟩]
      · rw [updF_other e, if_neg (fun h => e h.1)]
    · rw [if_neg (fun e => hr (hd_none.1 e)), if_neg (fun h => hr h.2)]
  have flist : ∀ y, (tieF (tieF { F with list := updF F.list x i } i (lst l) x) i x (hd r)).list y = if y = x then (i : Int) else F.list y := fun y => rfl
  refine ⟨fun j hj => ?_, fun j hj y hy => ?_, fun j k hj hk hne y hy hy2 => ?_, fun j hj => ?_, fun j hj y hy => ?_, fun y hy hfr => ?_⟩
  · unfold setOf
    by_cases e : j = i
    · rw [if_pos e]; exact hni
    · rw [if_neg e]; exact h.nodup j hj
  · rcases (hmem j hj y).1 hy with ⟨rfl, _⟩ | hy
    · exact hx
    · exact h.lt j hj y hy
  · have q1 := (hmem j hj y).1 hy
    have q2 := (hmem k hk y).1 hy2
    clear hy hy2
    rcases q1 with ⟨e1, e2⟩ | q1
    · rcases q2 with ⟨_, e4⟩ | q2
      · exact hne (e2.trans e4.symm)
      · exact hf k hk (e1 ▸ q2)
    · rcases q2 with ⟨e3, _⟩ | q2
      · exact hf j hj (e3 ▸ q1)
      · exact h.disj j k hj hk hne y q1 q2
  · rw [ffirst, flast]
    unfold setOf
    by_cases e : j = i
    · subst e
      rw [if_pos rfl, (h.ends j hj).1, (h.ends j hj).2, hs, hd_append, hd_append, lst_append, lst_append, if_neg (List.cons_ne_nil _ _), lst_cons]
      constructor
      · by_cases hl : l = [] <;> simp [hl, hd]
      · by_cases hr : r = [] <;> simp [hr]
    · rw [if_neg (fun h : j = i ∧ l = [] => e h.1), if_neg (fun h : j = i ∧ r = [] => e h.1), if_neg e]
      exact h.ends j hj
  · rw [flist, fnext, fprev]
    by_cases e : j = i
    · subst e
      have e1 : setOf of j (l ++ x :: r) j = l ++ x :: r := if_pos rfl
      rw [e1, nx_ins hni, pv_ins hni]
      rcases (hmem j hj y).1 hy with ⟨rfl, _⟩ | hy
      · rw [if_pos rfl, if_pos rfl, if_pos rfl, if_pos rfl, if_pos rfl]; exact ⟨rfl, rfl, rfl⟩
      · have hyx : y ≠ x := fun e => hf j hj (e ▸ hy)
        obtain ⟨u1, u2, u3⟩ := h.used j hj y hy
        rw [if_neg hyx, if_neg hyx, if_neg hyx, if_neg hyx, if_neg hyx, u1, u2, u3, hs]
        exact ⟨rfl, rfl, rfl⟩
    · have e1 : setOf of i (l ++ x :: r) j = of j := if_neg e
      rw [e1]
      have hy : y ∈ of j := by rw [e1] at hy; exact hy
      have hyx : y ≠ x := fun e2 => hf j hj (e2 ▸ hy)
      obtain ⟨u1, u2, u3⟩ := h.used j hj y hy
      have hyo : y ∉ l ++ r := fun e2 => h.disj j i hj hi e y hy (hs ▸ e2)
      rw [if_neg hyx, if_neg hyx, if_neg hyx, if_neg, if_neg]
      · exact ⟨u1, u2, u3⟩
      · rintro ⟨hr, e2⟩
        obtain ⟨a, hra, e3⟩ := hd_mem hr
        exact hyo (List.mem_append_right _ (by rw [show y = a by omega]; exact hra))
      · rintro ⟨hl, e2⟩
        obtain ⟨b, hb, e3⟩ := lst_mem hl
        exact hyo (List.mem_append_left _ (by rw [show y = b by omega]; exact hb))
  · have hyx : y ≠ x := fun e => hfr i hi ((hmem i hi y).2 (.inl ⟨e, rfl⟩))
    have hyo : ∀ j, j < m → y ∉ of j := fun j hj e => hfr j hj ((hmem j hj y).2 (.inr e))
    obtain ⟨u1, u2, u3⟩ := h.free y hy hyo
    have hyl : y ∉ l ++ r := hs ▸ hyo i hi
    rw [flist, fnext, fprev, if_neg hyx, if_neg hyx, if_neg hyx, if_neg, if_neg]
    · exact ⟨u1, u2, u3⟩
    · rintro ⟨hr, e2⟩
      obtain ⟨a, hra, e3⟩ := hd_mem hr
      exact hyl (List.mem_append_right _ (by rw [show y = a by omega]; exact hra))
    · rintro ⟨hl, e2⟩
      obtain ⟨b, hb, e3⟩ := lst_mem hl
      exact hyl (List.mem_append_left _ (by rw [show y = b by omega]; exact hb))
theorem nodup_del {l r : List Nat} {x : Nat} (h : (l ++ x :: r).Nodup) : (l ++ r).Nodup ∧ x ∉ l ++ r := by
  obtain ⟨h1, h2, h3⟩ := List.nodup_append.1 h
  obtain ⟨h4, h5⟩ := List.nodup_cons.1 h2
  refine ⟨List.nodup_append.2 ⟨h1, h5, fun a ha b hb => h3 a ha b (List.mem_cons_of_mem _ hb)⟩, fun hx => ?_⟩
  rcases List.mem_append.1 hx with hx | hx
  · exact h3 x hx x (List.mem_cons_self ..) rfl
  · exact h4 hx
theorem rep_unlink {n m : Nat} {of : Nat → List Nat} {F : LkF} (h : Rep n m of F) {i x : Nat} {l r : List Nat} (hi : i < m) (hs : of i = l ++ x :: r) :
    Rep n m (setOf of i (l ++ r)) (unlinkF F x) := by
  have hni : (l ++ x :: r).Nodup := hs ▸ h.nodup i hi
  obtain ⟨hnd, hxo⟩ := nodup_del hni
  have hxi : x ∈ of i := by rw [hs]; simp
  obtain ⟨x1, x2, x3⟩ := h.used i hi x hxi
  rw [hs, nx_ins hni, if_pos rfl] at x2
  rw [hs, pv_ins hni, if_pos rfl] at x3
  have hmem : ∀ j, j < m → ∀ y, y ∈ setOf of i (l ++ r) j ↔ y ≠ x ∧ y ∈ of j := by
    intro j hj y
    unfold setOf
    by_cases e : j = i
    · subst e
      rw [if_pos rfl, hs]
      constructor
      · intro hy
        refine ⟨fun e => hxo (e ▸ hy), ?_⟩
        rcases List.mem_append.1 hy with hy | hy
        · exact List.mem_append_left _ hy
        · exact List.mem_append_right _ (List.mem_cons_of_mem _ hy)
      · rintro ⟨hne, hy⟩
        rcases List.mem_append.1 hy with hy | hy
        · exact List.mem_append_left _ hy
        · rcases List.mem_cons.1 hy with hy | hy
          · exact absurd hy hne
          · exact List.mem_append_right _ hy
    · rw [if_neg e]
      exact ⟨fun hy => ⟨fun e2 => h.disj j i hj hi e y hy (e2 ▸ hxi), hy⟩, fun hy => hy.2⟩
  have fnext : ∀ y, (unlinkF F x).next y = if y = x then -1 else if l ≠ [] ∧ (y : Int) = lst l then hd r else F.next y := by
    intro y
    simp only [unlinkF, tieF, x1, x2, x3, toNat_cast]
    by_cases e : y = x
    · subst e; rw [updF_same, if_pos rfl]
    · rw [updF_other e, if_neg e]
      by_cases hl : l = []
      · rw [if_pos (lst_none.2 hl), if_neg (fun h => h.1 hl)]
      · rw [if_neg (fun e => hl (lst_none.1 e))]
        obtain ⟨b, hb, e2⟩ := lst_mem hl
        rw [e2, toNat_cast]
        by_cases e3 : y = b
        · subst e3; rw [updF_same, if_pos ⟨hl, rfl⟩]
        · rw [updF_other e3, if_neg (fun h => e3 (by have := h.2; omega))]
  have fprev : ∀ y, (unlinkF F x).prev y = if y = x then -1 else if r ≠ [] ∧ (y : Int) = hd r then lst l else F.prev y := by
    intro y
    simp only [unlinkF, tieF, x1, x2, x3, toNat_cast]
    by_cases e : y = x
    · subst e; rw [updF_same, if_pos rfl]
    · rw [updF_other e, if_neg e]
      by_cases hr : r = []
      · rw [if_pos (hd_none.2 hr), if_neg (fun h => h.1 hr)]
      · rw [if_neg (fun e => hr (hd_none.1 e))]
        obtain ⟨a, hra, e2⟩ := hd_mem hr
        rw [e2, toNat_cast]
        by_cases e3 : y = a
        · subst e3; rw [updF_same, if_pos ⟨hr, rfl⟩]
        · rw [updF_other e3, if_neg (fun h => e3 (by have := h.2; omega))]
  have ffirst : ∀ j, (unlinkF F x).first j = if j = i ∧ l = [] then hd r else F.first j := by
    intro j
    simp only [unlinkF, tieF, x1, x2, x3, toNat_cast]
    by_cases hl : l = []
    · rw [if_pos (lst_none.2 hl)]
      by_cases e : j = i
      · subst e; rw [updF_same, if_pos ⟨rfl, hl⟩]
      · rw [updF_other e, if_neg (fun h => e h.1)]
    · rw [if_neg (fun e => hl (lst_none.1 e)), if_neg (fun h => hl h.2)]
  have flast : ∀ j, (unlinkF F x).last j = if j = i ∧ r = [] then lst l else F.last j := by
    intro j
    simp only [unlinkF, tieF, x1, x2, x3, toNat_cast]
    by_cases hr : r = []
    · rw [if_pos (hd_none.2 hr)]
      by_cases e : j = i
      · subst e; rw [updF_same, if_pos ⟨rfl, hr⟩]
      · rw [updF_other e, if_neg (fun h => e h.1)]
    · rw [if_neg (fun e => hr (hd_none.1 e)), if_neg (fun h => hr h.2)]
  have flist : ∀ y, (unlinkF F x).list y = if y = x then -1 else F.list y := fun y => rfl
  refine ⟨fun j hj => ?_, fun j hj y hy => ?_, fun j k hj hk hne y hy hy2 => ?_, fun j hj => ?_, fun j hj y hy => ?_, fun y hy hfr => ?_⟩
  · unfold setOf
    by_cases e : j = i
    · rw [if_pos e]; exact hnd
    · rw [if_neg e]; exact h.nodup j hj
  · exact h.lt j hj y ((hmem j hj y).1 hy).2
  · exact h.disj j k hj hk hne y ((hmem j hj y).1 hy).2 ((hmem k hk y).1 hy2).2
  · rw [ffirst, flast]
    unfold setOf
    by_cases e : j = i
    · subst e
      rw [if_pos rfl, (h.ends j hj).1, (h.ends j hj).2, hs, hd_append, hd_append, lst_append, lst_append, if_neg (List.cons_ne_nil _ _), lst_cons]
      constructor
      · by_cases hl : l = [] <;> simp [hl]
      · by_cases hr : r = [] <;> simp [hr]
    · rw [if_neg (fun h : j = i ∧ l = [] => e h.1), if_neg (fun h : j = i ∧ r = [] => e h.1), if_neg e]
      exact h.ends j hj
  · obtain ⟨hyx, hyj⟩ := (hmem j hj y).1 hy
    obtain ⟨u1, u2, u3⟩ := h.used j hj y hyj
    rw [flist, fnext, fprev, if_neg hyx, if_neg hyx, if_neg hyx, u1]
    by_cases e : j = i
    · subst e
      have e1 : setOf of j (l ++ r) j = l ++ r := if_pos rfl
      have hyl : y ∈ l ++ r := by rw [e1] at hy; exact hy
      rw [e1]
      rw [hs, nx_ins hni, if_neg hyx] at u2
      rw [hs, pv_ins hni, if_neg hyx] at u3
      refine ⟨rfl, ?_, ?_⟩
      · by_cases c : l ≠ [] ∧ (y : Int) = lst l
        · rw [if_pos c]
          obtain ⟨b, hb, e2⟩ := lst_mem c.1
          have hyb : y = b := by have := c.2; omega
          rw [hyb, nx_last hnd hb e2]
        · rw [if_neg c] at u2 ⊢; exact u2
      · by_cases c : r ≠ [] ∧ (y : Int) = hd r
        · rw [if_pos c]
          obtain ⟨a, hra, e2⟩ := hd_mem c.1
          have hya : y = a := by have := c.2; omega
          rw [hya, pv_first hnd hra e2]
        · rw [if_neg c] at u3 ⊢; exact u3
    · have e1 : setOf of i (l ++ r) j = of j := if_neg e
      rw [e1]
      have hyo : y ∉ l ++ x :: r := fun e2 => h.disj j i hj hi e y hyj (hs ▸ e2)
      refine ⟨rfl, ?_, ?_⟩
      · rw [if_neg]
        · exact u2
        · rintro ⟨hl, e2⟩
          obtain ⟨b, hb, e3⟩ := lst_mem hl
          exact hyo (List.mem_append_left _ (by rw [show y = b by omega]; exact hb))
      · rw [if_neg]
        · exact u3
        · rintro ⟨hr, e2⟩
          obtain ⟨a, hra, e3⟩ := hd_mem hr
          exact hyo (List.mem_append_right _ (List.mem_cons_of_mem _ (by rw [show y = a by omega]; exact hra)))
  · rw [flist, fnext, fprev]
    by_cases e : y = x
    · rw [if_pos e, if_pos e, if_pos e]; exact ⟨rfl, rfl, rfl⟩
    · have hyo : ∀ j, j < m → y ∉ of j := fun j hj e2 => hfr j hj ((hmem j hj y).2 ⟨e, e2⟩)
      obtain ⟨u1, u2, u3⟩ := h.free y hy hyo
      have hyl : y ∉ l ++ x :: r := hs ▸ hyo i hi
      rw [if_neg e, if_neg e, if_neg e, if_neg, if_neg]
      · exact ⟨u1, u2, u3⟩
      · rintro ⟨hr, e2⟩
        obtain ⟨a, hra, e3⟩ := hd_mem hr
        exact hyl (List.mem_append_right _ (List.mem_cons_of_mem _ (by rw [show y = a by omega]; exact hra)))
      · rintro ⟨hl, e2⟩
        obtain ⟨b, hb, e3⟩ := lst_mem hl
        exact hyl (List.mem_append_left _ (by rw [show y = b by omega]; exact hb))
end Go.Proofs.Ytmelcohfjonjfaa
