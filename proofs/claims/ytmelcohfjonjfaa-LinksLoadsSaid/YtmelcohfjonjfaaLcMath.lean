/- links: following a list's links from its first slot on: plain mathematics. links: what is wrong in a state first, and that one number of a state follows from the others: plain mathematics. -/
import Derived.Test.YtmelcohfjonjfaaLkMath
namespace Go.Proofs.Ytmelcohfjonjfaa

/-- Whoever follows list i's links has met the slots pre, each with the one before it as its prev, and stands at cur. -/
inductive Went (F : LkF) (i : Int) : List Nat → Int → Prop where
  | start : Went F i [] (F.first i.toNat)
  | step {pre : List Nat} {x : Nat} : Went F i pre (x : Int) → F.list x = i → F.prev x = lst pre → Went F i (pre ++ [x]) (F.next x)
/-- Each slot that was met has the one before it as its prev. -/
theorem Went.prev {F : LkF} {i : Int} {pre : List Nat} {c : Int} (h : Went F i pre c) : ∀ (k : Nat) (hk : k < pre.length), F.prev pre[k] = lst (pre.take k) ∧ F.list pre[k] = i := by
  induction h with
  | start => intro k hk; cases hk
  | @step pre x _ hl hp ih =>
    intro k hk
    rw [List.length_append, List.length_singleton] at hk
    by_cases e : k < pre.length
    · rw [List.getElem_append_left e, List.take_append_of_le_length (by omega)]
      exact ih k e
    · obtain rfl : k = pre.length := by omega
      rw [List.getElem_append_right (Nat.le_refl _)]
      simp only [Nat.sub_self, List.getElem_singleton]
      rw [List.take_left']
      · exact ⟨hp, hl⟩
      · rfl
theorem lst_take {L : List Nat} {k : Nat} (hk : k < L.length) : lst (L.take (k + 1)) = (L[k] : Nat) := by
  rw [List.take_add_one, List.getElem?_eq_getElem hk, lst_append, if_neg (by simp)]
  rfl
/-- No slot is met twice. -/
theorem Went.fresh {F : LkF} {i : Int} {pre : List Nat} {x : Nat} (hnd : pre.Nodup) (h : Went F i pre (x : Int)) (hp : F.prev x = lst pre) : x ∉ pre := by
  intro hx
  obtain ⟨k, hk, e⟩ := List.mem_iff_getElem.1 hx
  have h1 := (h.prev k hk).1
  rw [e, hp] at h1
  have hne : pre.length ≠ 0 := by omega
  obtain ⟨m, hm⟩ : ∃ m, pre.length = m + 1 := ⟨pre.length - 1, by omega⟩
  have h2 : lst pre = ((pre[m]'(by omega) : Nat) : Int) := by
    have := lst_take (L := pre) (k := m) (by omega)
    rwa [← hm, List.take_length] at this
  rw [h2] at h1
  cases k with
  | zero =>
    rw [List.take_zero] at h1
    exact absurd h1 (ne_none _)
  | succ j =>
    rw [lst_take (by omega)] at h1
    have h3 : pre[m]'(by omega) = pre[j]'(by omega) := by omega
    have := (List.getElem_inj hnd).1 h3
    omega
theorem Went.nodup {F : LkF} {i : Int} {pre : List Nat} {c : Int} (h : Went F i pre c) : pre.Nodup := by
  induction h with
  | start => exact List.nodup_nil
  | @step pre x hw _ hp ih =>
    have hx := hw.fresh ih hp
    rw [List.nodup_append]
    exact ⟨ih, by simp, fun a ha b hb => by rw [List.mem_singleton.1 hb]; exact fun e => hx (e ▸ ha)⟩
/-- There is one way to go. -/
theorem Went.det {F : LkF} {i : Int} {L : List Nat} {d : Int} (hL : Went F i L d) : ∀ (pre : List Nat) (c : Int), Went F i pre c → pre.length ≤ L.length →
    ∃ r, L = pre ++ r ∧ (r = [] → d = c) ∧ ∀ x r', r = x :: r' → c = (x : Int) ∧ F.list x = i ∧ F.prev x = lst pre := by
  induction hL with
  | start =>
    intro pre c h hle
    cases h with
    | start => exact ⟨[], rfl, fun _ => rfl, fun x r' e => by cases e⟩
    | step _ _ _ => simp at hle
  | @step L y hw hl hp ih =>
    intro pre c h hle
    by_cases hlt : pre.length ≤ L.length
    · obtain ⟨r, e, h1, h2⟩ := ih pre c h hlt
      refine ⟨r ++ [y], by rw [e, List.append_assoc], fun e2 => absurd e2 (by simp), fun x r' e2 => ?_⟩
      cases r with
      | nil =>
        rw [List.append_nil] at e
        simp only [List.nil_append, List.cons.injEq] at e2
        obtain ⟨rfl, _⟩ := e2
        exact ⟨(h1 rfl).symm, hl, by rw [← e]; exact hp⟩
      | cons a r2 =>
        simp only [List.cons_append, List.cons.injEq] at e2
        exact h2 x r2 (by rw [e2.1])
    · cases h with
      | start => simp at hlt
      | @step pre' x' h' hl' hp' =>
        rw [List.length_append, List.length_singleton] at hlt hle
        rw [List.length_append, List.length_singleton] at hle
        obtain ⟨r, e, h1, _⟩ := ih pre' _ h' (by omega)
        have hr : r = [] := by
          have := congrArg List.length e
          rw [List.length_append] at this
          exact List.eq_nil_of_length_eq_zero (by omega)
        subst hr
        rw [List.append_nil] at e
        have hxy : y = x' := by have := h1 rfl; omega
        subst e
        subst hxy
        exact ⟨[], by simp, fun _ => rfl, fun x r' e2 => by cases e2⟩
/-- What the links say of the slots that were met. -/
theorem Went.links {F : LkF} {i : Int} {pre : List Nat} {c : Int} (h : Went F i pre c) : ∀ rest : List Nat, hd rest = c → (pre ++ rest).Nodup → F.first i.toNat = hd (pre ++ rest) ∧ ∀ x ∈ pre, F.next x = nx (pre ++ rest) x ∧ F.prev x = pv (pre ++ rest) x := by
  induction h with
  | start => intro rest hr _; exact ⟨hr.symm, fun x hx => by cases hx⟩
  | @step pre x hw hl hp ih =>
    intro rest hr hnd
    have e : pre ++ [x] ++ rest = pre ++ (x :: rest) := by simp
    rw [e] at hnd ⊢
    obtain ⟨h1, h2⟩ := ih (x :: rest) rfl hnd
    refine ⟨h1, fun y hy => ?_⟩
    rcases List.mem_append.1 hy with hy | hy
    · exact h2 y hy
    · rw [List.mem_singleton.1 hy]
      exact ⟨by rw [nx_ins hnd, if_pos rfl]; exact hr.symm, by rw [pv_ins hnd, if_pos rfl]; exact hp⟩
/-- A list that holds: followed to its end, its last slot the last one met. -/
theorem Went.all {F : LkF} {i : Int} {L : List Nat} (h : Went F i L (-1)) : F.first i.toNat = hd L ∧ ∀ x ∈ L, F.list x = i ∧ F.next x = nx L x ∧ F.prev x = pv L x := by
  have h1 := h.links [] rfl (by rw [List.append_nil]; exact h.nodup)
  rw [List.append_nil] at h1
  refine ⟨h1.1, fun x hx => ⟨?_, h1.2 x hx⟩⟩
  obtain ⟨k, hk, e⟩ := List.mem_iff_getElem.1 hx
  rw [← e]
  exact (h.prev k hk).2
/-- Whoever follows a list of a good state meets its slots in order. -/
theorem Rep.went {n m : Nat} {of : Nat → List Nat} {F : LkF} (h : Rep n m of F) {i : Nat} (hi : i < m) : ∀ (pre rest : List Nat), of i = pre ++ rest → Went F (i : Int) pre (hd rest) := by
  have H : ∀ (k : Nat) (pre rest : List Nat), pre.length = k → of i = pre ++ rest → Went F (i : Int) pre (hd rest) := by
    intro k
    induction k with
    | zero =>
      intro pre rest hk e
      obtain rfl : pre = [] := List.eq_nil_of_length_eq_zero hk
      have := (h.ends i hi).1
      rw [e] at this
      rw [show hd rest = F.first ((i : Int)).toNat by rw [toNat_cast]; exact this.symm]
      exact .start
    | succ k ih =>
      intro pre rest hk e
      rcases List.eq_nil_or_concat pre with rfl | ⟨l, x, rfl⟩
      · cases hk
      · have e2 : of i = l ++ (x :: rest) := by rw [e]; simp
        have hw := ih l (x :: rest) (by simpa using hk) e2
        have hnd := h.nodup i hi
        obtain ⟨u1, u2, u3⟩ := h.used i hi x (by rw [e2]; simp)
        rw [e2] at u2 u3 hnd
        rw [nx_ins hnd, if_pos rfl] at u2
        rw [pv_ins hnd, if_pos rfl] at u3
        rw [← u2]
        rw [List.concat_eq_append]
        exact .step hw u1 u3
  exact fun pre rest e => H _ pre rest rfl e
/-- The lists that hold are the lists of a pool. -/
theorem rep_of_went {n m : Nat} {of : Nat → List Nat} {F : LkF} (h : ∀ i, i < m → Went F (i : Int) (of i) (-1) ∧ F.last i = lst (of i) ∧ ∀ x ∈ of i, x < n)
    (hf : ∀ x, x < n → F.list x = -1 → F.next x = -1 ∧ F.prev x = -1) (hu : ∀ x, x < n → F.list x ≠ -1 → ∃ i, i < m ∧ x ∈ of i) : Rep n m of F := by
  refine ⟨fun i hi => (h i hi).1.nodup, fun i hi => (h i hi).2.2, fun i j hi hj hne x hx hx2 => ?_, fun i hi => ⟨?_, (h i hi).2.1⟩, fun i hi => (h i hi).1.all.2, fun x hx hn => ?_⟩
  · have a := ((h i hi).1.all.2 x hx).1
    have b := ((h j hj).1.all.2 x hx2).1
    omega
  · have := (h i hi).1.all.1
    rwa [toNat_cast] at this
  · by_cases e : F.list x = -1
    · exact ⟨e, hf x hx e⟩
    · obtain ⟨i, hi, hx2⟩ := hu x hx e
      exact absurd hx2 (hn i hi)
end Go.Proofs.Ytmelcohfjonjfaa
namespace Go.Proofs.Ytmelcohfjonjfaa

/-- List i of a state is linked from its first slot to its last one. -/
def Holds (F : LkF) (n i : Nat) : Prop := ∃ L, Went F (i : Int) L (-1) ∧ F.last i = lst L ∧ ∀ x ∈ L, x < n
/-- The numbers of a slot are in their ranges. -/
def SlotOk (m n : Nat) (a b c : Int) : Prop := (a = -1 ∧ b = -1 ∧ c = -1) ∨ ((0 ≤ a ∧ a < m) ∧ (b = -1 ∨ (0 ≤ b ∧ b < n)) ∧ (c = -1 ∨ (0 ≤ c ∧ c < n)))
def SlotsOk (m n : Nat) (F : LkF) (k : Nat) : Prop := ∀ j, j < k → SlotOk m n (F.list j) (F.next j) (F.prev j)
/-- A slot that says it is in a list is met in it. -/
def MetOk (F : LkF) (n x : Nat) : Prop := F.list x = -1 ∨ ∃ L, Went F (F.list x) L (-1) ∧ x ∈ L ∧ ∀ y ∈ L, y < n
/-- What is wrong first. -/
inductive WrongIs (fits : Bool) (n m : Nat) (F : LkF) : Int → Int → Prop where
  | sizes : fits = false → WrongIs fits n m F 1 0
  | slot (j : Nat) : fits = true → j < n → SlotsOk m n F j → ¬ SlotOk m n (F.list j) (F.next j) (F.prev j) → WrongIs fits n m F 2 j
  | list (i : Nat) : fits = true → SlotsOk m n F n → i < m → (∀ k, k < i → Holds F n k) → ¬ Holds F n i → WrongIs fits n m F 3 i
  | met (j : Nat) : fits = true → SlotsOk m n F n → (∀ k, k < m → Holds F n k) → j < n → (∀ k, k < j → MetOk F n k) → ¬ MetOk F n j → WrongIs fits n m F 2 j
  | none : fits = true → SlotsOk m n F n → (∀ k, k < m → Holds F n k) → (∀ k, k < n → MetOk F n k) → WrongIs fits n m F 0 0
theorem WrongIs.uniq {fits : Bool} {n m : Nat} {F : LkF} {a b c d : Int} (h : WrongIs fits n m F a b) (k : WrongIs fits n m F c d) : a = c ∧ b = d := by
  cases h with
  | sizes h1 => cases k <;> simp_all
  | slot j h1 h2 h3 h4 =>
    cases k with
    | sizes k1 => simp_all
    | slot i k1 k2 k3 k4 =>
      rcases Nat.lt_trichotomy i j with e | e | e
      · exact absurd (h3 i e) k4
      · exact ⟨rfl, by rw [e]⟩
      · exact absurd (k3 j e) h4
    | list i k1 k2 => exact absurd (k2 j h2) h4
    | met i k1 k2 => exact absurd (k2 j h2) h4
    | none k1 k2 => exact absurd (k2 j h2) h4
  | list i h1 h2 h3 h4 h5 =>
    cases k with
    | sizes k1 => simp_all
    | slot j k1 k2 k3 k4 => exact absurd (h2 j k2) k4
    | list j k1 k2 k3 k4 k5 =>
      rcases Nat.lt_trichotomy i j with e | e | e
      · exact absurd (k4 i e) h5
      · exact ⟨rfl, by rw [e]⟩
      · exact absurd (h4 j e) k5
    | met j k1 k2 k3 => exact absurd (k3 i h3) h5
    | none k1 k2 k3 => exact absurd (k3 i h3) h5
  | met i h1 h2 h3 h4 h5 h6 =>
    cases k with
    | sizes k1 => simp_all
    | slot j k1 k2 k3 k4 => exact absurd (h2 j k2) k4
    | list j k1 k2 k3 k4 k5 => exact absurd (h3 j k3) k5
    | met j k1 k2 k3 k4 k5 k6 =>
      rcases Nat.lt_trichotomy i j with e | e | e
      · exact absurd (k5 i e) h6
      · exact ⟨rfl, by rw [e]⟩
      · exact absurd (h5 j e) k6
    | none k1 k2 k3 k4 => exact absurd (k4 i h4) h6
  | none h1 h2 h3 h4 =>
    cases k with
    | sizes k1 => simp_all
    | slot j k1 k2 k3 k4 => exact absurd (h2 j k2) k4
    | list j k1 k2 k3 k4 k5 => exact absurd (h3 j k3) k5
    | met j k1 k2 k3 k4 k5 k6 => exact absurd (h4 j k4) k6
    | none => exact ⟨rfl, rfl⟩
theorem went_one {F : LkF} {i : Int} {L M : List Nat} (h : Went F i L (-1)) (k : Went F i M (-1)) : L = M := by
  rcases Nat.le_total M.length L.length with e | e
  · obtain ⟨r, e1, _, h2⟩ := h.det M (-1) k e
    cases r with
    | nil => rw [e1, List.append_nil]
    | cons x r =>
      have := (h2 x r rfl).1
      omega
  · obtain ⟨r, e1, _, h2⟩ := k.det L (-1) h e
    cases r with
    | nil => rw [e1, List.append_nil]
    | cons x r =>
      have := (h2 x r rfl).1
      omega
/-- A state in which nothing is wrong is that of a pool. -/
theorem rep_of_ok {n m : Nat} {F : LkF} (h : WrongIs true n m F 0 0) : ∃ of, Rep n m of F := by
  have h' : SlotsOk m n F n ∧ (∀ k, k < m → Holds F n k) ∧ (∀ k, k < n → MetOk F n k) := by
    generalize ha : (0 : Int) = a at h
    generalize hb : (0 : Int) = b at h
    cases h with
    | slot j => omega
    | list i => omega
    | met j => omega
    | none h1 h2 h3 h4 => exact ⟨h2, h3, h4⟩
  obtain ⟨h2, h3, h4⟩ := h'
  have hc : ∀ i, ∃ L, i < m → Went F (i : Int) L (-1) ∧ F.last i = lst L ∧ ∀ x ∈ L, x < n := by
    intro i
    by_cases e : i < m
    · obtain ⟨L, hL⟩ := h3 i e; exact ⟨L, fun _ => hL⟩
    · exact ⟨[], fun e2 => absurd e2 e⟩
  obtain ⟨of, hof⟩ := Classical.axiomOfChoice hc
  refine ⟨of, rep_of_went hof (fun x hx e => ?_) (fun x hx e => ?_)⟩
  · rcases h2 x hx with h | h
    · exact h.2
    · exfalso; have := h.1.1; rw [e] at this; exact absurd this (by decide)
  · rcases h4 x hx with h | ⟨L, hL, hxL, _⟩
    · exact absurd h e
    · rcases h2 x hx with h | h
      · exact absurd h.1 e
      · obtain ⟨i, hi⟩ : ∃ i : Nat, F.list x = (i : Int) := ⟨(F.list x).toNat, by omega⟩
        have him : i < m := by omega
        rw [hi] at hL
        exact ⟨i, him, by rw [went_one (hof i him).1 hL]; exact hxL⟩
/-- Slots that are in a list have numbers in their ranges. -/
theorem Rep.slots {n m : Nat} {of : Nat → List Nat} {F : LkF} (h : Rep n m of F) : SlotsOk m n F n := by
  intro x hx
  by_cases e : ∃ i, i < m ∧ x ∈ of i
  · obtain ⟨i, hi, hxi⟩ := e
    obtain ⟨l, r, hs⟩ := List.append_of_mem hxi
    obtain ⟨u1, u2, u3⟩ := h.used i hi x hxi
    have hnd := h.nodup i hi
    rw [hs] at u2 u3 hnd
    rw [nx_ins hnd, if_pos rfl] at u2
    rw [pv_ins hnd, if_pos rfl] at u3
    refine .inr ⟨⟨by omega, by omega⟩, ?_, ?_⟩
    · by_cases e : r = []
      · left; rw [u2, e]; rfl
      · right
        obtain ⟨a, ha, ea⟩ := hd_mem e
        have := h.lt i hi a (by rw [hs]; simp [ha])
        omega
    · by_cases e : l = []
      · left; rw [u3, e]; rfl
      · right
        obtain ⟨a, ha, ea⟩ := lst_mem e
        have := h.lt i hi a (by rw [hs]; simp [ha])
        omega
  · left
    have := h.free x hx (fun i hi hm => e ⟨i, hi, hm⟩)
    exact this
/-- The state of a pool is not wrong. -/
theorem Rep.right {n m : Nat} {of : Nat → List Nat} {F : LkF} (h : Rep n m of F) : WrongIs true n m F 0 0 := by
  refine .none rfl h.slots (fun i hi => ⟨of i, h.went hi (of i) [] (by simp), (h.ends i hi).2, h.lt i hi⟩) (fun x hx => ?_)
  by_cases e : ∃ i, i < m ∧ x ∈ of i
  · obtain ⟨i, hi, hxi⟩ := e
    right
    refine ⟨of i, ?_, hxi, h.lt i hi⟩
    rw [(h.used i hi x hxi).1]
    exact h.went hi (of i) [] (by simp)
  · left
    exact (h.free x hx (fun i hi hm => e ⟨i, hi, hm⟩)).1
/-- Lists that begin alike, and go on alike, are the same. -/
theorem same_fwd {f : Nat → Int} {L M : List Nat} (hL : L.Nodup) (hM : M.Nodup) (h1 : ∀ x ∈ L, f x = nx L x) (h2 : ∀ x ∈ M, f x = nx M x) : ∀ (s t p q : List Nat), L = p ++ s → M = q ++ t → hd s = hd t → s = t
  | [], t, p, q, e1, e2, e => by
    have : hd t = -1 := e.symm
    exact (hd_none.1 this).symm
  | a :: s, t, p, q, e1, e2, e => by
    cases t with
    | nil => have : (a : Int) = -1 := e; omega
    | cons b t =>
      have e3 : (a : Int) = b := e
      obtain rfl : a = b := by omega
      have u := h1 a (by rw [e1]; simp)
      have v := h2 a (by rw [e2]; simp)
      rw [e1] at u hL
      rw [e2] at v hM
      rw [nx_ins hL, if_pos rfl] at u
      rw [nx_ins hM, if_pos rfl] at v
      rw [same_fwd (L := L) (M := M) (by rw [e1]; exact hL) (by rw [e2]; exact hM) h1 h2 s t (p ++ [a]) (q ++ [a]) (by rw [e1]; simp) (by rw [e2]; simp) (by rw [← u, ← v])]
theorem same_bwd {f : Nat → Int} {L M : List Nat} (hL : L.Nodup) (hM : M.Nodup) (h1 : ∀ x ∈ L, f x = pv L x) (h2 : ∀ x ∈ M, f x = pv M x) : ∀ (k : Nat) (s t p q : List Nat), s.length = k → L = s ++ p → M = t ++ q → lst s = lst t → s = t := by
  intro k
  induction k with
  | zero =>
    intro s t p q hk e1 e2 e
    obtain rfl : s = [] := List.eq_nil_of_length_eq_zero hk
    have : lst t = -1 := e.symm
    exact (lst_none.1 this).symm
  | succ k ih =>
    intro s t p q hk e1 e2 e
    rcases List.eq_nil_or_concat s with rfl | ⟨l, a, rfl⟩
    · cases hk
    · rcases List.eq_nil_or_concat t with rfl | ⟨r, b, rfl⟩
      · rw [List.concat_eq_append, lst_append, if_neg (by simp)] at e
        have : (a : Int) = -1 := e
        omega
      · simp only [List.concat_eq_append] at *
        rw [lst_append, if_neg (by simp), lst_append, if_neg (by simp)] at e
        have e3 : (a : Int) = b := e
        obtain rfl : a = b := by omega
        have u := h1 a (by rw [e1]; simp)
        have v := h2 a (by rw [e2]; simp)
        have e4 : L = l ++ a :: p := by rw [e1]; simp
        have e5 : M = r ++ a :: q := by rw [e2]; simp
        rw [e4] at u
        rw [e5] at v
        rw [pv_ins (by rw [← e4]; exact hL), if_pos rfl] at u
        rw [pv_ins (by rw [← e5]; exact hM), if_pos rfl] at v
        rw [ih l r (a :: p) (a :: q) (by simpa using hk) e4 e5 (by rw [← u, ← v])]
/-- Two states are alike. -/
structure AlikeF (n m : Nat) (F G : LkF) : Prop where
  list : ∀ x, x < n → F.list x = G.list x
  next : ∀ x, x < n → F.next x = G.next x
  prev : ∀ x, x < n → F.prev x = G.prev x
  first : ∀ i, i < m → F.first i = G.first i
  last : ∀ i, i < m → F.last i = G.last i
theorem alike_of {n m : Nat} {o p : Nat → List Nat} {F G : LkF} (h : Rep n m o F) (k : Rep n m p G) (e : ∀ i, i < m → o i = p i) : AlikeF n m F G := by
  have H : ∀ x, x < n → F.list x = G.list x ∧ F.next x = G.next x ∧ F.prev x = G.prev x := by
    intro x hx
    by_cases c : ∃ i, i < m ∧ x ∈ o i
    · obtain ⟨i, hi, hm⟩ := c
      obtain ⟨a1, a2, a3⟩ := h.used i hi x hm
      obtain ⟨b1, b2, b3⟩ := k.used i hi x (by rw [← e i hi]; exact hm)
      rw [← e i hi] at b2 b3
      exact ⟨a1.trans b1.symm, a2.trans b2.symm, a3.trans b3.symm⟩
    · obtain ⟨a1, a2, a3⟩ := h.free x hx (fun i hi hm => c ⟨i, hi, hm⟩)
      obtain ⟨b1, b2, b3⟩ := k.free x hx (fun i hi hm => c ⟨i, hi, by rw [e i hi]; exact hm⟩)
      exact ⟨a1.trans b1.symm, a2.trans b2.symm, a3.trans b3.symm⟩
  refine ⟨fun x hx => (H x hx).1, fun x hx => (H x hx).2.1, fun x hx => (H x hx).2.2, fun i hi => ?_, fun i hi => ?_⟩
  · rw [(h.ends i hi).1, (k.ends i hi).1, e i hi]
  · rw [(h.ends i hi).2, (k.ends i hi).2, e i hi]
theorem alike_fwd {n m : Nat} {o p : Nat → List Nat} {F G : LkF} (h : Rep n m o F) (k : Rep n m p G) (e1 : ∀ x, x < n → F.next x = G.next x) (e2 : ∀ i, i < m → F.first i = G.first i) : AlikeF n m F G :=
  alike_of h k fun i hi => same_fwd (f := F.next) (h.nodup i hi) (k.nodup i hi) (fun x hx => (h.used i hi x hx).2.1) (fun x hx => by rw [e1 x (k.lt i hi x hx)]; exact (k.used i hi x hx).2.1) (o i) (p i) [] [] rfl rfl (by rw [← (h.ends i hi).1, ← (k.ends i hi).1, e2 i hi])
theorem alike_bwd {n m : Nat} {o p : Nat → List Nat} {F G : LkF} (h : Rep n m o F) (k : Rep n m p G) (e1 : ∀ x, x < n → F.prev x = G.prev x) (e2 : ∀ i, i < m → F.last i = G.last i) : AlikeF n m F G :=
  alike_of h k fun i hi => same_bwd (f := F.prev) (h.nodup i hi) (k.nodup i hi) (fun x hx => (h.used i hi x hx).2.2) (fun x hx => by rw [e1 x (k.lt i hi x hx)]; exact (k.used i hi x hx).2.2) _ (o i) (p i) [] [] rfl (by simp) (by simp) (by rw [← (h.ends i hi).2, ← (k.ends i hi).2, e2 i hi])
/-- A state with one number changed: which row (0: list, 1: next, 2: prev, 3: first, 4: last), which place, which number. -/
def chgF (F : LkF) (r j : Nat) (z : Int) : LkF :=
  ⟨if r = 0 then updF F.list j z else F.list, if r = 1 then updF F.next j z else F.next, if r = 2 then updF F.prev j z else F.prev, if r = 3 then updF F.first j z else F.first, if r = 4 then updF F.last j z else F.last⟩
def getF (F : LkF) (r j : Nat) : Int := if r = 0 then F.list j else if r = 1 then F.next j else if r = 2 then F.prev j else if r = 3 then F.first j else F.last j
/-- With one number changed it is the state of no pool. -/
theorem no_chg {n m : Nat} {o p : Nat → List Nat} {F : LkF} {r j : Nat} {z : Int} (hr : r < 5) (hj : j < if r < 3 then n else m) (hz : z ≠ getF F r j) (h : Rep n m o F) : ¬ Rep n m p (chgF F r j z) := by
  intro k
  have A : AlikeF n m F (chgF F r j z) := by
    by_cases e : r = 1 ∨ r = 3
    · refine alike_bwd h k (fun x _ => ?_) (fun i _ => ?_)
      · show F.prev x = (if r = 2 then updF F.prev j z else F.prev) x
        rw [if_neg (by omega)]
      · show F.last i = (if r = 4 then updF F.last j z else F.last) i
        rw [if_neg (by omega)]
    · refine alike_fwd h k (fun x _ => ?_) (fun i _ => ?_)
      · show F.next x = (if r = 1 then updF F.next j z else F.next) x
        rw [if_neg (by omega)]
      · show F.first i = (if r = 3 then updF F.first j z else F.first) i
        rw [if_neg (by omega)]
  obtain rfl | rfl | rfl | rfl | rfl : r = 0 ∨ r = 1 ∨ r = 2 ∨ r = 3 ∨ r = 4 := by omega
  · have := A.list j hj
    exact hz (this.trans (updF_same _ _ _)).symm
  · have := A.next j hj
    exact hz (this.trans (updF_same _ _ _)).symm
  · have := A.prev j hj
    exact hz (this.trans (updF_same _ _ _)).symm
  · have := A.first j hj
    exact hz (this.trans (updF_same _ _ _)).symm
  · have := A.last j hj
    exact hz (this.trans (updF_same _ _ _)).symm
theorem chg_wrong {n m : Nat} {o : Nat → List Nat} {F : LkF} {r j : Nat} {z a b : Int} (hr : r < 5) (hj : j < if r < 3 then n else m) (hz : z ≠ getF F r j) (h : Rep n m o F) (hw : WrongIs true n m (chgF F r j z) a b) : ¬ (a = 0 ∧ b = 0) := by
  rintro ⟨rfl, rfl⟩
  obtain ⟨p, hp⟩ := rep_of_ok hw
  exact no_chg hr hj hz h hp
theorem WrongIs.zero {fits : Bool} {n m : Nat} {F : LkF} {a b : Int} (h : WrongIs fits n m F a b) (e : a = 0) : fits = true ∧ b = 0 := by
  cases h with
  | none h1 => exact ⟨h1, rfl⟩
  | _ => omega
end Go.Proofs.Ytmelcohfjonjfaa
