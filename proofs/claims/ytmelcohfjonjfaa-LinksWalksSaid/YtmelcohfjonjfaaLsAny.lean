/- links: how the reference's Save makes the links, slot by slot: plain mathematics. A drawn region by what holds whatever has come up: one step for each operation, not one walk for each order. -/
import Derived.Test.YtmelcohfjonjfaaLjMade
import Derived.StillTail
import Derived.Maps.AppendAt
namespace Go.Proofs.Ytmelcohfjonjfaa

/-- The lists before i, l in place of list i, nothing behind it. -/
def prt (of : Nat → List Nat) (i : Nat) (l : List Nat) : Nat → List Nat := fun j => if j < i then of j else if j = i then l else []
theorem Rep.congr {n m : Nat} {of of' : Nat → List Nat} {F : LkF} (h : Rep n m of F) (e : ∀ j, j < m → of j = of' j) : Rep n m of' F :=
  ⟨fun i hi => e i hi ▸ h.nodup i hi, fun i hi => e i hi ▸ h.lt i hi, fun i j hi hj hne => e i hi ▸ e j hj ▸ h.disj i j hi hj hne, fun i hi => e i hi ▸ h.ends i hi, fun i hi => e i hi ▸ h.used i hi,
    fun x hx hf => h.free x hx (fun i hi => (e i hi).symm ▸ hf i hi)⟩
theorem rep_nil (n : Nat) (of : Nat → List Nat) (F : LkF) (hl : F.list = fun _ => -1) (hn : F.next = fun _ => -1) (hp : F.prev = fun _ => -1) : Rep n 0 of F :=
  ⟨(fun i hi => by omega), (fun i hi => by omega), (fun i j hi => by omega), (fun i hi => by omega), (fun i hi => by omega), fun x _ _ => ⟨by rw [hl], by rw [hn], by rw [hp]⟩⟩
/-- A list more, which is empty. -/
theorem rep_open {n i : Nat} {of : Nat → List Nat} {F : LkF} (h : Rep n i (prt of i []) F) : Rep n (i + 1) (prt of i []) { F with first := updF F.first i (-1), last := updF F.last i (-1) } := by
  have e : prt of i [] i = [] := by unfold prt; rw [if_neg (Nat.lt_irrefl _), if_pos rfl]
  refine ⟨fun j hj => ?_, fun j hj x hx => ?_, fun j k hj hk hne x hx hx2 => ?_, fun j hj => ?_, fun j hj x hx => ?_, fun x hx hf => ?_⟩
  · by_cases ej : j = i
    · rw [ej, e]; exact List.nodup_nil
    · exact h.nodup j (by omega)
  · by_cases ej : j = i
    · rw [ej, e] at hx; cases hx
    · exact h.lt j (by omega) x hx
  · by_cases ej : j = i
    · rw [ej, e] at hx; cases hx
    · by_cases ek : k = i
      · rw [ek, e] at hx2; cases hx2
      · exact h.disj j k (by omega) (by omega) hne x hx hx2
  · by_cases ej : j = i
    · rw [ej, e]; exact ⟨updF_same _ _ _, updF_same _ _ _⟩
    · show updF F.first i (-1) j = _ ∧ updF F.last i (-1) j = _
      rw [updF_other ej, updF_other ej]; exact h.ends j (by omega)
  · by_cases ej : j = i
    · rw [ej, e] at hx; cases hx
    · exact h.used j (by omega) x hx
  · exact h.free x hx (fun j hj => hf j (by omega))
/-- What Save writes for a slot x behind the list l. -/
def addF (F : LkF) (i x : Nat) (l : List Nat) : LkF :=
  { list := updF F.list x i
    next := if l = [] then F.next else updF F.next (lst l).toNat x
    prev := if l = [] then F.prev else updF F.prev x (lst l)
    first := if l = [] then updF F.first i x else F.first
    last := updF F.last i x }
theorem rep_add {n m : Nat} {of : Nat → List Nat} {F : LkF} (h : Rep n m of F) {i x : Nat} {l : List Nat} (hi : i < m) (hx : x < n) (hf : ∀ j, j < m → x ∉ of j) (hs : of i = l) :
    Rep n m (setOf of i (l ++ [x])) (addF F i x l) := by
  have hr := rep_link h hi hx hf (l := l) (r := []) (by rw [hs, List.append_nil])
  obtain ⟨f1, f2, f3⟩ := h.free x hx hf
  have ha : (if lst l = -1 then F.first i else F.next (lst l).toNat) = -1 := by
    have := (rep_at h hi (l := l) (r := []) (by rw [hs, List.append_nil])).2.1
    rw [this]; rfl
  have e : linkF F x i (lst l) = addF F i x l := by
    unfold linkF
    rw [ha]
    unfold tieF addF
    simp only [if_neg (ne_none x), if_true, toNat_cast]
    by_cases hl : l = []
    · subst hl
      have e1 : updF F.next x (-1) = F.next := by funext j; unfold updF; by_cases e : j = x; (rw [if_pos e, e, f2]); rw [if_neg e]
      have e2 : updF F.prev x (-1) = F.prev := by funext j; unfold updF; by_cases e : j = x; (rw [if_pos e, e, f3]); rw [if_neg e]
      simp [lst, e1, e2]
    · have hne : ¬ lst l = -1 := fun e => hl (lst_none.1 e)
      have e1 : updF (updF F.next (lst l).toNat x) x (-1) = updF F.next (lst l).toNat x := by
        obtain ⟨b, hb, eb⟩ := lst_mem hl
        have hbx : b ≠ x := fun e => hf i hi (by rw [hs, ← e]; exact hb)
        rw [eb, toNat_cast]
        funext j; unfold updF
        by_cases e : j = x
        · rw [if_pos e, if_neg (fun e2 => hbx (by omega)), e, f2]
        · rw [if_neg e]
      simp [hl, hne, e1]
  rw [e] at hr
  exact hr
theorem prt_add {of : Nat → List Nat} {i k : Nat} (hk : k < (of i).length) : setOf (prt of i ((of i).take k)) i ((of i).take k ++ [(of i)[k]]) = prt of i ((of i).take (k + 1)) := by
  funext j; unfold setOf prt
  by_cases e : j = i
  · subst e
    rw [if_pos rfl, if_neg (Nat.lt_irrefl _), if_pos rfl, List.take_add_one, List.getElem?_eq_getElem hk]; rfl
  · rw [if_neg e]
    by_cases e2 : j < i
    · rw [if_pos e2, if_pos e2]
    · rw [if_neg e2, if_neg e, if_neg e2, if_neg e]
theorem prt_next (of : Nat → List Nat) (i : Nat) : ∀ j, j < i + 1 → prt of i (of i) j = prt of (i + 1) [] j := by
  intro j hj
  unfold prt
  by_cases e : j < i
  · rw [if_pos e, if_pos (by omega)]
  · rw [if_neg e, if_pos (by omega), if_pos (by omega), show j = i by omega]
theorem prt_zero (of : Nat → List Nat) (m : Nat) : ∀ j, j < m → prt of m [] j = of j := fun j hj => if_pos hj
/-- One slot further: what is known of it. -/
theorem slot_free {n m : Nat} {of : Nat → List Nat} {G : LkF} (h : Rep n m of G) {i k : Nat} (hi : i < m) (hk : k < (of i).length) : (of i)[k] < n ∧ ∀ j, j < i + 1 → (of i)[k] ∉ prt of i ((of i).take k) j := by
  have hm : (of i)[k] ∈ of i := List.getElem_mem hk
  refine ⟨h.lt i hi _ hm, fun j hj hx => ?_⟩
  unfold prt at hx
  by_cases e : j < i
  · rw [if_pos e] at hx
    exact h.disj i j hi (by omega) (by omega) _ hm hx
  · rw [if_neg e, if_pos (by omega)] at hx
    have hnd := h.nodup i hi
    have e2 : of i = (of i).take k ++ (of i)[k] :: (of i).drop (k + 1) := by
      rw [← List.drop_eq_getElem_cons hk, List.take_append_drop]
    have hnd2 := hnd
    rw [e2] at hnd2
    exact (List.nodup_append.1 hnd2).2.2 _ hx _ (List.mem_cons_self ..) rfl
theorem take_nil {L : List Nat} {k : Nat} (hk : k < L.length) : L.take k = [] ↔ k = 0 := by
  constructor
  · intro h
    have h2 : (L.take k).length = 0 := by rw [h]; rfl
    rw [List.length_take] at h2
    omega
  · rintro rfl; rfl
theorem take_last {L : List Nat} {k : Nat} (hk : k < L.length) (h0 : k ≠ 0) : lst (L.take k) = natF L (k - 1) := by
  have hne : L.take k ≠ [] := fun e => h0 ((take_nil hk).1 e)
  rw [← natF_last hne]
  unfold natF
  rw [List.length_take, Nat.min_eq_left (by omega), List.getD_eq_getElem?_getD, List.getD_eq_getElem?_getD, List.getElem?_take_of_lt (by omega)]
end Go.Proofs.Ytmelcohfjonjfaa
namespace Go.Proofs.Ytmelcohfjonjfaa
open Go.RowKit
section
variable {P : Program} {ops : Array Oper} {Q : Exit → Act → World → Prop} {md : Region.Mode}

theorem ready_lt {i : Nat} {l : Array Bool} (h : i ∈ Region.ready md ops l) : ∃ hi : i < l.size, l[i] = false := by
  have h0 := (mem_ready.1 h).1
  by_cases hi : i < l.size
  · exact ⟨hi, by simpa [hi] using h0⟩
  · simp [hi] at h0
theorem lst_set {i j : Nat} {l : Array Bool} (h : i ∈ Region.ready md ops l) : (l.setIfInBounds i true).getD j false = true ↔ j = i ∨ l.getD j false = true := by
  obtain ⟨hi, h0⟩ := ready_lt h
  by_cases e : i = j
  · subst e; simp [hi]
  · rw [getD_set_ne false e]
    exact ⟨.inr, fun h => h.resolve_left (fun e2 => e e2.symm)⟩
theorem lst_not {i : Nat} {l : Array Bool} (h : i ∈ Region.ready md ops l) : ¬ l.getD i false = true := by
  obtain ⟨hi, h0⟩ := ready_lt h
  simp [hi, h0]
theorem lst_waits {i j : Nat} {l : Array Bool} (h : i ∈ Region.ready md ops l) (hw : Region.waitsFor md ops i j = true) : l.getD j false = true := by
  obtain ⟨o, ho, e, he, hb, rfl⟩ := Region.waitsFor_spec hw
  obtain ⟨_, o2, ho2, hall⟩ := mem_ready.1 h
  rw [ho] at ho2
  cases ho2
  exact hall e he hb
/-- Each operation waits for such as stand ahead of it alone. -/
def Ahead (ops : Array Oper) : Bool := (List.range ops.size).all fun i => match ops[i]? with | some o => o.after.all (fun e => decide (e.on < i)) | none => true
theorem Ahead.all {l : Array Bool} (ha : Ahead ops = true) (hr : Region.ready md ops l = []) : ∀ n i, i < n → i < ops.size → i < l.size → l.getD i false = true := by
  intro n
  induction n with
  | zero => intro i hi; cases hi
  | succ n ih =>
    intro i hi hs hl
    by_cases hf : l.getD i true = false
    · exfalso
      have : i ∈ Region.ready md ops l := by
        refine mem_ready.2 ⟨hf, ops[i], Array.getElem?_eq_getElem hs, fun e he _ => ?_⟩
        have h1 := List.all_eq_true.1 ha i (List.mem_range.2 hs)
        rw [Array.getElem?_eq_getElem hs] at h1
        have h2 := Array.all_eq_true_iff_forall_mem.1 h1 e he
        have h3 : e.on < i := by simpa using h2
        exact ih e.on (by omega) (by omega) (by omega)
      rw [hr] at this
      cases this
    · simpa [hl] using hf
theorem wpAny_inv {J : Array Bool → Act → World → Prop} (hstep : ∀ l a w i, l.size = ops.size → J l a w → i ∈ Region.ready md ops l → wpOp P ops Q i (J (l.setIfInBounds i true)) a w) (ha : Ahead ops = true)
    (hend : ∀ l a w, J l a w → (∀ i, i < ops.size → l.getD i false = true) → Q .normal a w) : ∀ (fuel : Nat) (l : Array Bool) (a : Act) (w : World), l.size = ops.size → l.toList.count false ≤ fuel → J l a w → wpAny P md ops Q fuel l a w := by
  have hq : ∀ l a w, l.size = ops.size → J l a w → Region.ready md ops l = [] → Q .normal a w := fun l a w hs hJ hr => hend l a w hJ (fun i hi => Ahead.all ha hr ops.size i hi hi (by omega))
  intro fuel
  induction fuel with
  | zero =>
    intro l a w hs hc hJ
    have hr : Region.ready md ops l = [] := by
      rw [List.eq_nil_iff_forall_not_mem]
      intro i hi
      obtain ⟨hlt, h0⟩ := ready_lt hi
      have : 0 < l.toList.count false := List.count_pos_iff.2 (by rw [← h0]; exact Array.getElem_mem_toList ..)
      omega
    exact ⟨hr, hq l a w hs hJ hr⟩
  | succ fuel ih =>
    intro l a w hs hc hJ
    refine ⟨fun hr => hq l a w hs hJ hr, fun i hi => ?_⟩
    refine wpOp_mono (fun a' w' h => ih _ a' w' (by simpa using hs) ?_ h) (hstep l a w i hs hJ hi)
    obtain ⟨hlt, h0⟩ := ready_lt hi
    have hpos : 0 < l.toList.count false := List.count_pos_iff.2 (by rw [← h0]; exact Array.getElem_mem_toList ..)
    rw [Array.toList_setIfInBounds, List.count_set (by simpa using hlt)]
    simp only [Array.getElem_toList, h0]
    rw [if_pos (by decide), if_neg (by decide)]
    omega
/-- **A drawn region, whatever the order**: J says what holds once the listed operations have come up. -/
theorem wp_region_inv {id : Nat} {a : Act} {w : World} (hm : P.follows .mixedOrders = true) {J : Array Bool → Act → World → Prop}
    (h0 : J (Array.replicate ops.size false) a w.drew)
    (hstep : ∀ l a w i, l.size = ops.size → J l a w → i ∈ Region.ready .any ops l → wpOp P ops Q i (J (l.setIfInBounds i true)) a w) (ha : Ahead ops = true)
    (hend : ∀ l a w, J l a w → (∀ i, i < ops.size → l.getD i false = true) → Q .normal a w) : (Code.region id ops true).wp P Q a w :=
  wp_region_any hm (wpAny_inv hstep ha hend ops.size _ a _ (by simp) (by simp) h0)
/-- An operation without a guard that hands a value on. -/
theorem wpOp_value {i : Nat} {o : Oper} {a : Act} {w w' : World} {v : Value} {K : Act → World → Prop} (ho : ops[i]? = some o) (hg : o.guard = none) (h : (execOp a.eval o).run P w = .ok (.value v) w') (hK : K (a.put o.dst v) w') : wpOp P ops Q i K a w := by
  unfold wpOp
  have hw : Region.wanted o (yielded ops a.tmps) = true := by simp [Region.wanted, hg]
  simp only [ho, hw, if_true]
  refine .inl ?_
  unfold Oper.wp
  rw [h]
  exact hK
theorem wpOp_skip {i : Nat} {o : Oper} {a : Act} {w w' : World} {K : Act → World → Prop} (ho : ops[i]? = some o) (hg : o.guard = none) (hd : o.dst = none) (h : (execOp a.eval o).run P w = .ok .skip w') (hK : K a w') : wpOp P ops Q i K a w := by
  unfold wpOp
  have hw : Region.wanted o (yielded ops a.tmps) = true := by simp [Region.wanted, hg]
  simp only [ho, hw, if_true]
  refine .inl ?_
  unfold Oper.wp
  rw [h]
  show K (a.put o.dst undef) w'
  rw [hd]
  exact hK
end
/-! ### Temporaries that the region sets -/
def puts (A : Act) (t0 : Nat) : Nat → (Nat → Value) → Act
  | 0, _ => A
  | n + 1, g => (puts A t0 n g).put (some (t0 + n)) (g n)
theorem puts_size (A : Act) (t0 n : Nat) (g : Nat → Value) : (puts A t0 n g).tmps.size = A.tmps.size ∧ (puts A t0 n g).defers = A.defers := by
  induction n with
  | zero => exact ⟨rfl, rfl⟩
  | succ n ih => exact ⟨by show ((puts A t0 n g).tmps.setIfInBounds _ _).size = _; rw [Array.size_setIfInBounds]; exact ih.1, ih.2⟩
theorem puts_at (A : Act) (t0 n : Nat) (g : Nat → Value) (j : Nat) : (puts A t0 n g).tmps[j]? = if t0 ≤ j ∧ j < t0 + n ∧ j < A.tmps.size then some (g (j - t0)) else A.tmps[j]? := by
  induction n with
  | zero => rw [if_neg (by omega)]; rfl
  | succ n ih =>
    show ((puts A t0 n g).tmps.setIfInBounds (t0 + n) (g n))[j]? = _
    rw [Array.getElem?_setIfInBounds, (puts_size A t0 n g).1, ih]
    by_cases e : t0 + n = j
    · subst e
      rw [if_pos rfl]
      by_cases h : t0 + n < A.tmps.size
      · rw [if_pos h, if_pos (by omega), show t0 + n - t0 = n by omega]
      · rw [if_neg h, if_neg (by omega), Array.getElem?_eq_none (by omega)]
    · rw [if_neg e]
      by_cases h : t0 ≤ j ∧ j < t0 + n ∧ j < A.tmps.size
      · rw [if_pos h, if_pos (by omega)]
      · rw [if_neg h, if_neg (by omega)]
def updV {α : Type} (g : Nat → α) (k : Nat) (v : α) : Nat → α := fun j => if j = k then v else g j
theorem updV_same {α : Type} (g : Nat → α) (k : Nat) (v : α) : updV g k v k = v := if_pos rfl
theorem updV_ne {α : Type} {g : Nat → α} {k j : Nat} {v : α} (h : j ≠ k) : updV g k v j = g j := if_neg h
theorem act_ext {a b : Act} (h : a.tmps = b.tmps) (hd : a.defers = b.defers) : a = b := by
  cases a; cases b; cases h; cases hd; rfl
theorem puts_put (A : Act) {t0 n : Nat} (g : Nat → Value) {k : Nat} (hk : k < n) (v : Value) : (puts A t0 n g).put (some (t0 + k)) v = puts A t0 n (updV g k v) := by
  refine act_ext (Array.ext_getElem? fun j => ?_) ((puts_size A t0 n g).2.trans (puts_size A t0 n _).2.symm)
  show ((puts A t0 n g).tmps.setIfInBounds (t0 + k) v)[j]? = _
  rw [Array.getElem?_setIfInBounds, (puts_size A t0 n g).1, puts_at, puts_at]
  by_cases e : t0 + k = j
  · subst e
    rw [if_pos rfl]
    by_cases h : t0 + k < A.tmps.size
    · rw [if_pos h, if_pos (by omega), show t0 + k - t0 = k by omega, updV_same]
    · rw [if_neg h, if_neg (by omega), Array.getElem?_eq_none (by omega)]
  · rw [if_neg e]
    by_cases h : t0 ≤ j ∧ j < t0 + n ∧ j < A.tmps.size
    · rw [if_pos h, if_pos h, updV_ne (by omega)]
    · rw [if_neg h, if_neg h]
theorem puts_self (A : Act) (t0 n : Nat) : A = puts A t0 n (fun k => A.tmps.getD (t0 + k) undef) := by
  refine act_ext (Array.ext_getElem? fun j => ?_) (puts_size A t0 n _).2.symm
  rw [puts_at]
  by_cases h : t0 ≤ j ∧ j < t0 + n ∧ j < A.tmps.size
  · rw [if_pos h, show t0 + (j - t0) = j by omega, Array.getElem?_eq_getElem h.2.2]
    simp [h.2.2]
  · rw [if_neg h]
theorem puts_tmp {A : Act} {t0 n : Nat} {g : Nat → Value} (hs : t0 + n ≤ A.tmps.size) {k : Nat} (hk : k < n) : (puts A t0 n g).eval (.tmp (t0 + k)) = g k := by
  show (puts A t0 n g).tmps.getD (t0 + k) undef = _
  rw [Array.getD_eq_getD_getElem?, puts_at, if_pos (by omega), show t0 + k - t0 = k by omega]
  rfl
theorem puts_old {A : Act} {t0 n : Nat} {g : Nat → Value} {j : Nat} (hj : j < t0) : (puts A t0 n g).eval (.tmp j) = A.eval (.tmp j) := by
  show (puts A t0 n g).tmps.getD j undef = A.tmps.getD j undef
  rw [Array.getD_eq_getD_getElem?, puts_at, if_neg (by omega), Array.getD_eq_getD_getElem?]
/-! ### Rows of one's own, in blocks that are apart -/
structure Fam (w : World) (base : Nat) (F : Nat → Option (Value × List Value)) : Prop where
  own : ∀ i v xs, F i = some (v, xs) → w.ownsRow base 3 1 v xs.length xs
  sep : ∀ i j v xs v' xs' q, i ≠ j → F i = some (v, xs) → F j = some (v', xs') → v.ownBlock = some q → v'.ownBlock ≠ some q
theorem grownBy_cell (w : World) (B c : Nat) (u : Value) : w.grownBy (w.setCell ⟨B, c, none⟩ u) (some B) :=
  ⟨rfl, rfl, rfl, by simp [World.setCell], fun k _ hk => Below.heap_setCell _ _ _ _ (fun e => hk (by rw [e]))⟩
theorem Fam.cell {w : World} {base : Nat} {F : Nat → Option (Value × List Value)} (h : Fam w base F) {B : Nat} (hB : B < base) (c : Nat) (u : Value) : Fam (w.setCell ⟨B, c, none⟩ u) base F :=
  ⟨fun i v xs hi => (h.own i v xs hi).kept (grownBy_cell w B c u) (by
    cases hv : v.ownBlock with
    | none => exact .inl rfl
    | some q => exact .inr (fun e => by have := ((h.own i v xs hi).lt q hv).1; cases e; omega)), h.sep⟩
theorem Fam.drew {w : World} {base : Nat} {F : Nat → Option (Value × List Value)} (h : Fam w base F) : Fam w.drew base F := ⟨h.own, h.sep⟩
theorem Fam.alloc {w : World} {base : Nat} {F : Nat → Option (Value × List Value)} (h : Fam w base F) (hb : base ≤ w.heap.size) (y : Value) (i : Nat) :
    Fam (w.alloc (.cells #[y] 3)) base (updV F i (some (.slice (some ⟨w.heap.size, 0, none⟩) 1 1, [y]))) := by
  refine ⟨fun j v xs hj => ?_, fun j k v xs v' xs' q hne hj hk hq => ?_⟩
  · by_cases e : j = i
    · subst e
      rw [updV_same] at hj
      cases hj
      exact ⟨rfl, .inr ⟨w.heap.size, 1, #[y], rfl, hb, heap_alloc_new w _, Nat.le_refl _, by decide, rfl, rfl⟩⟩
    · rw [updV_ne e] at hj
      exact (h.own j v xs hj).alloc _
  · by_cases e : j = i
    · subst e
      rw [updV_same] at hj
      cases hj
      rw [updV_ne (Ne.symm hne)] at hk
      intro e2
      have := ((h.own k v' xs' hk).lt q e2).2
      cases hq
      exact Nat.lt_irrefl _ this
    · rw [updV_ne e] at hj
      by_cases e2 : k = i
      · subst e2
        rw [updV_same] at hk
        cases hk
        intro e3
        have := ((h.own j v xs hj).lt q hq).2
        cases e3
        exact Nat.lt_irrefl _ this
      · rw [updV_ne e2] at hk
        exact h.sep j k v xs v' xs' q hne hj hk hq
theorem Fam.app {w w' : World} {base : Nat} {F : Nat → Option (Value × List Value)} (h : Fam w base F) {i : Nat} {v v' : Value} {xs ys : List Value} (hi : F i = some (v, xs)) (hown : w'.ownsRow base 3 1 v' ys.length ys) (hg : w.grownBy w' v.ownBlock)
    (hblk : v'.ownBlock = v.ownBlock ∨ v'.ownBlock = some w.heap.size) : Fam w' base (updV F i (some (v', ys))) := by
  have other : ∀ j u zs, j ≠ i → F j = some (u, zs) → w'.ownsRow base 3 1 u zs.length zs := fun j u zs hne hj =>
    (h.own j u zs hj).kept hg (by
      cases hu : u.ownBlock with
      | none => exact .inl rfl
      | some q => exact .inr (fun e => h.sep j i u zs v xs q hne hj hi hu e.symm))
  refine ⟨fun j u zs hj => ?_, fun j k u zs u' zs' q hne hj hk hq => ?_⟩
  · by_cases e : j = i
    · subst e
      rw [updV_same] at hj
      cases hj
      exact hown
    · rw [updV_ne e] at hj
      exact other j u zs e hj
  · by_cases e : j = i
    · subst e
      rw [updV_same] at hj
      cases hj
      rw [updV_ne (Ne.symm hne)] at hk
      intro e2
      rcases hblk with hb | hb
      · exact h.sep k j u' zs' v xs q (Ne.symm hne) hk hi e2 (hb ▸ hq)
      · have := ((h.own k u' zs' hk).lt q e2).2
        rw [hb] at hq
        cases hq
        exact Nat.lt_irrefl _ this
    · rw [updV_ne e] at hj
      by_cases e2 : k = i
      · subst e2
        rw [updV_same] at hk
        cases hk
        intro e3
        rcases hblk with hb | hb
        · exact h.sep j k u zs v xs q hne hj hi hq (hb ▸ e3)
        · have := ((h.own j u zs hj).lt q hq).2
          rw [hb] at e3
          cases e3
          exact Nat.lt_irrefl _ this
      · rw [updV_ne e2] at hk
        exact h.sep j k u zs u' zs' q hne hj hk hq

open Go.RowKit

/-- The box of a state: six slices. -/
def BoxC (w : World) (B : Nat) (C : Nat → Value) : Prop := w.heap[B]? = some (.cells #[C 0, C 1, C 2, C 3, C 4, C 5] 39 (0, 0))
theorem BoxC.cell {w : World} {B : Nat} {C : Nat → Value} (h : BoxC w B C) {c : Nat} (hc : c < 6) : w.cell? ⟨B, c, none⟩ = some (C c) ∧ w.frozen? ⟨B, c, none⟩ = false := by
  refine ⟨row_cell h ?_, row_free h⟩
  match c, hc with
  | 0, _ => rfl
  | 1, _ => rfl
  | 2, _ => rfl
  | 3, _ => rfl
  | 4, _ => rfl
  | 5, _ => rfl
theorem BoxC.set {w : World} {B : Nat} {C : Nat → Value} (h : BoxC w B C) {c : Nat} (hc : c < 6) (v : Value) : BoxC (w.setCell ⟨B, c, none⟩ v) B (updV C c v) := by
  have := heap_set (i := c) v h
  match c, hc with
  | 0, _ => exact this
  | 1, _ => exact this
  | 2, _ => exact this
  | 3, _ => exact this
  | 4, _ => exact this
  | 5, _ => exact this
theorem BoxC.keep {w w' : World} {B : Nat} {C : Nat → Value} (h : BoxC w B C) (e : w'.heap[B]? = w.heap[B]?) : BoxC w' B C := e.trans h
/-- What the operations of such a region are, by what they do. -/
structure ApOps (P : Program) (ops : Array Oper) (B K t0 c0 : Nat) (y : Value) : Prop where
  size : ops.size = 6 * K
  ahead : Ahead ops = true
  addr : ∀ k, k < K → ∃ o, ops[4 * k]? = some o ∧ o.guard = none ∧ o.dst = some (t0 + 4 * k) ∧ ∀ (a : Act) (w : World), a.eval (.tmp 3) = .pointer (some ⟨B, 0, none⟩) → (execOp a.eval o).run P w = .ok (.value (.pointer (some ⟨B, c0 + k, none⟩))) w
  load : ∀ k, k < K → ∃ o, ops[4 * k + 1]? = some o ∧ o.guard = none ∧ o.dst = some (t0 + (4 * k + 1)) ∧ ∀ (a : Act) (w : World) (v : Value), a.eval (.tmp (t0 + 4 * k)) = .pointer (some ⟨B, c0 + k, none⟩) → w.cell? ⟨B, c0 + k, none⟩ = some v → (execOp a.eval o).run P w = .ok (.value v) w
  slice : ∀ k, k < K → ∃ o, ops[4 * k + 2]? = some o ∧ o.guard = none ∧ o.dst = some (t0 + (4 * k + 2)) ∧ ∀ (a : Act) (w : World), (execOp a.eval o).run P w = .ok (.value (.slice (some ⟨w.heap.size, 0, none⟩) 1 1)) (w.alloc (.cells #[y] 3))
  app : ∀ k, k < K → ∃ o, ops[4 * k + 3]? = some o ∧ o.guard = none ∧ o.dst = some (t0 + (4 * k + 3)) ∧ o.op = .call { callee := .builtin .append, args := #[.tmp (t0 + (4 * k + 1)), .tmp (t0 + (4 * k + 2))], argTypes := #[29, 29] }
  addr2 : ∀ k, k < K → ∃ o, ops[4 * K + 2 * k]? = some o ∧ o.guard = none ∧ o.dst = some (t0 + (4 * K + k)) ∧ ∀ (a : Act) (w : World), a.eval (.tmp 3) = .pointer (some ⟨B, 0, none⟩) → (execOp a.eval o).run P w = .ok (.value (.pointer (some ⟨B, c0 + k, none⟩))) w
  store : ∀ k, k < K → ∃ o, ops[4 * K + 2 * k + 1]? = some o ∧ o.guard = none ∧ o.dst = none ∧ ∀ (a : Act) (w : World) (v : Value), a.eval (.tmp (t0 + (4 * K + k))) = .pointer (some ⟨B, c0 + k, none⟩) → a.eval (.tmp (t0 + (4 * k + 3))) = v → (∃ p n c, v = .slice p n c) → (∃ p n c, w.cell? ⟨B, c0 + k, none⟩ = some (.slice p n c)) → w.frozen? ⟨B, c0 + k, none⟩ = false → (execOp a.eval o).run P w = .ok .skip (w.setCell ⟨B, c0 + k, none⟩ v)
  wait : ∀ k, k < K → Region.waitsFor .any ops (4 * k + 1) (4 * k) = true ∧ Region.waitsFor .any ops (4 * k + 3) (4 * k + 1) = true ∧ Region.waitsFor .any ops (4 * k + 3) (4 * k + 2) = true ∧
    Region.waitsFor .any ops (4 * K + 2 * k + 1) (4 * K + 2 * k) = true ∧ Region.waitsFor .any ops (4 * K + 2 * k + 1) (4 * k + 3) = true ∧ Region.waitsFor .any ops (4 * K + 2 * k + 1) (4 * k + 1) = true
/-- What holds when the operations of l have come up. -/
structure ApF (B base c0 K : Nat) (W : World) (u : Nat → Value) (x : Nat → List Value) (y : Value) (l : Array Bool) (g : Nat → Value) (F : Nat → Option (Value × List Value)) (C : Nat → Value) (w : World) : Prop where
  bel : BelowS (fun k => k = B) base W w
  fam : Fam w base F
  box : BoxC w B C
  ad : ∀ k, k < K → l.getD (4 * k) false = true → g (4 * k) = .pointer (some ⟨B, c0 + k, none⟩)
  ld : ∀ k, k < K → l.getD (4 * k + 1) false = true → g (4 * k + 1) = u (c0 + k)
  sl : ∀ k, k < K → l.getD (4 * k + 2) false = true → F (6 + k) = some (g (4 * k + 2), [y])
  ap : ∀ k, k < K → l.getD (4 * k + 3) false = true → F (c0 + k) = some (g (4 * k + 3), x (c0 + k) ++ [y])
  ap0 : ∀ k, k < K → ¬ l.getD (4 * k + 3) false = true → F (c0 + k) = some (u (c0 + k), x (c0 + k))
  ad2 : ∀ k, k < K → l.getD (4 * K + 2 * k) false = true → g (4 * K + k) = .pointer (some ⟨B, c0 + k, none⟩)
  st : ∀ k, k < K → l.getD (4 * K + 2 * k + 1) false = true → C (c0 + k) = g (4 * k + 3)
  st0 : ∀ k, k < K → ¬ l.getD (4 * K + 2 * k + 1) false = true → C (c0 + k) = u (c0 + k)
  so : ∀ k, k < K → l.getD (4 * K + 2 * k + 1) false = true → l.getD (4 * k + 1) false = true ∧ l.getD (4 * k + 3) false = true
  rest : ∀ c, c < 6 → ¬ (c0 ≤ c ∧ c < c0 + K) → F c = some (u c, x c) ∧ C c = u c
section
variable {P : Program} {ops : Array Oper} {B base c0 K t0 : Nat} {W : World} {u : Nat → Value} {x : Nat → List Value} {y : Value} {l : Array Bool} {g : Nat → Value} {F : Nat → Option (Value × List Value)} {C : Nat → Value} {w : World}

theorem ApF.addr (h : ApF B base c0 K W u x y l g F C w) {k : Nat} (hk : k < K) (hr : 4 * k ∈ Region.ready .any ops l) :
    ApF B base c0 K W u x y (l.setIfInBounds (4 * k) true) (updV g (4 * k) (.pointer (some ⟨B, c0 + k, none⟩))) F C w := by
  refine ⟨h.bel, h.fam, h.box, fun j hj hl => ?_, fun j hj hl => ?_, fun j hj hl => ?_, fun j hj hl => ?_, fun j hj hl => ?_, fun j hj hl => ?_, fun j hj hl => ?_, fun j hj hl => ?_, fun j hj hl => ?_, h.rest⟩ <;> simp only [lst_set hr] at hl ⊢
  · by_cases e : j = k
    · subst e; exact updV_same ..
    · rw [updV_ne (by omega)]; exact h.ad j hj (hl.resolve_left (by omega))
  · rw [updV_ne (by omega)]; exact h.ld j hj (hl.resolve_left (by omega))
  · rw [updV_ne (by omega)]; exact h.sl j hj (hl.resolve_left (by omega))
  · rw [updV_ne (by omega)]; exact h.ap j hj (hl.resolve_left (by omega))
  · exact h.ap0 j hj (fun e => hl (.inr e))
  · rw [updV_ne (by omega)]; exact h.ad2 j hj (hl.resolve_left (by omega))
  · rw [updV_ne (by omega)]; exact h.st j hj (hl.resolve_left (by omega))
  · exact h.st0 j hj (fun e => hl (.inr e))
  · exact ⟨.inr (h.so j hj (hl.resolve_left (by omega))).1, .inr (h.so j hj (hl.resolve_left (by omega))).2⟩
theorem ApF.load (h : ApF B base c0 K W u x y l g F C w) {k : Nat} (hk : k < K) (hr : 4 * k + 1 ∈ Region.ready .any ops l) :
    ApF B base c0 K W u x y (l.setIfInBounds (4 * k + 1) true) (updV g (4 * k + 1) (u (c0 + k))) F C w := by
  refine ⟨h.bel, h.fam, h.box, fun j hj hl => ?_, fun j hj hl => ?_, fun j hj hl => ?_, fun j hj hl => ?_, fun j hj hl => ?_, fun j hj hl => ?_, fun j hj hl => ?_, fun j hj hl => ?_, fun j hj hl => ?_, h.rest⟩ <;> simp only [lst_set hr] at hl ⊢
  · rw [updV_ne (by omega)]; exact h.ad j hj (hl.resolve_left (by omega))
  · by_cases e : j = k
    · subst e; exact updV_same ..
    · rw [updV_ne (by omega)]; exact h.ld j hj (hl.resolve_left (by omega))
  · rw [updV_ne (by omega)]; exact h.sl j hj (hl.resolve_left (by omega))
  · rw [updV_ne (by omega)]; exact h.ap j hj (hl.resolve_left (by omega))
  · exact h.ap0 j hj (fun e => hl (.inr e))
  · rw [updV_ne (by omega)]; exact h.ad2 j hj (hl.resolve_left (by omega))
  · rw [updV_ne (by omega)]; exact h.st j hj (hl.resolve_left (by omega))
  · exact h.st0 j hj (fun e => hl (.inr e))
  · exact ⟨.inr (h.so j hj (hl.resolve_left (by omega))).1, .inr (h.so j hj (hl.resolve_left (by omega))).2⟩
theorem ApF.slice (h : ApF B base c0 K W u x y l g F C w) (hcK : c0 + K ≤ 6) (hB : B < base) (hbw : base ≤ w.heap.size) {k : Nat} (hk : k < K) (hr : 4 * k + 2 ∈ Region.ready .any ops l) :
    ApF B base c0 K W u x y (l.setIfInBounds (4 * k + 2) true) (updV g (4 * k + 2) (.slice (some ⟨w.heap.size, 0, none⟩) 1 1)) (updV F (6 + k) (some (.slice (some ⟨w.heap.size, 0, none⟩) 1 1, [y]))) C (w.alloc (.cells #[y] 3)) := by
  refine ⟨h.bel.trans (BelowS.of ((Below.refl base w).alloc hbw _)), h.fam.alloc hbw y (6 + k), h.box.keep (Below.heap_alloc w _ B (by omega)), fun j hj hl => ?_, fun j hj hl => ?_, fun j hj hl => ?_, fun j hj hl => ?_, fun j hj hl => ?_, fun j hj hl => ?_, fun j hj hl => ?_, fun j hj hl => ?_, fun j hj hl => ?_, fun c hc hn => ?_⟩ <;> try simp only [lst_set hr] at hl ⊢
  · rw [updV_ne (by omega)]; exact h.ad j hj (hl.resolve_left (by omega))
  · rw [updV_ne (by omega)]; exact h.ld j hj (hl.resolve_left (by omega))
  · by_cases e : j = k
    · subst e; rw [updV_same, updV_same]
    · rw [updV_ne (by omega), updV_ne (by omega)]; exact h.sl j hj (hl.resolve_left (by omega))
  · rw [updV_ne (by omega), updV_ne (by omega)]; exact h.ap j hj (hl.resolve_left (by omega))
  · rw [updV_ne (by omega)]; exact h.ap0 j hj (fun e => hl (.inr e))
  · rw [updV_ne (by omega)]; exact h.ad2 j hj (hl.resolve_left (by omega))
  · rw [updV_ne (by omega)]; exact h.st j hj (hl.resolve_left (by omega))
  · exact h.st0 j hj (fun e => hl (.inr e))
  · exact ⟨.inr (h.so j hj (hl.resolve_left (by omega))).1, .inr (h.so j hj (hl.resolve_left (by omega))).2⟩
  · rw [updV_ne (by omega)]; exact h.rest c hc hn
theorem ApF.app {w' : World} {v' : Value} (h : ApF B base c0 K W u x y l g F C w) (hcK : c0 + K ≤ 6) (hB : B < base) (hbw : base ≤ w.heap.size) {k : Nat} (hk : k < K) (hr : 4 * k + 3 ∈ Region.ready .any ops l)
    (hown : w'.ownsRow base 3 1 v' (x (c0 + k) ++ [y]).length (x (c0 + k) ++ [y])) (hg : w.grownBy w' (u (c0 + k)).ownBlock) (hblk : v'.ownBlock = (u (c0 + k)).ownBlock ∨ v'.ownBlock = some w.heap.size) :
    ApF B base c0 K W u x y (l.setIfInBounds (4 * k + 3) true) (updV g (4 * k + 3) v') (updV F (c0 + k) (some (v', x (c0 + k) ++ [y]))) C w' := by
  have hF := h.ap0 k hk (lst_not hr)
  have hlt := (h.fam.own _ _ _ hF).lt
  have hnst : ¬ l.getD (4 * K + 2 * k + 1) false = true := fun e => lst_not hr (h.so k hk e).2
  refine ⟨h.bel.trans (BelowS.of ((Below.refl base w).grown hg hbw (fun q e => (hlt q e).1))), h.fam.app hF hown hg hblk, h.box.keep (hg.block B (by omega) (fun e => by have := (hlt B e.symm).1; omega)), fun j hj hl => ?_, fun j hj hl => ?_, fun j hj hl => ?_, fun j hj hl => ?_, fun j hj hl => ?_, fun j hj hl => ?_, fun j hj hl => ?_, fun j hj hl => ?_, fun j hj hl => ?_, fun c hc hn => ?_⟩ <;> try simp only [lst_set hr] at hl ⊢
  · rw [updV_ne (by omega)]; exact h.ad j hj (hl.resolve_left (by omega))
  · rw [updV_ne (by omega)]; exact h.ld j hj (hl.resolve_left (by omega))
  · rw [updV_ne (by omega), updV_ne (by omega)]; exact h.sl j hj (hl.resolve_left (by omega))
  · by_cases e : j = k
    · subst e; rw [updV_same, updV_same]
    · rw [updV_ne (by omega), updV_ne (by omega)]; exact h.ap j hj (hl.resolve_left (by omega))
  · by_cases e : j = k
    · exact absurd (.inl (by rw [e])) hl
    · rw [updV_ne (by omega)]; exact h.ap0 j hj (fun e => hl (.inr e))
  · rw [updV_ne (by omega)]; exact h.ad2 j hj (hl.resolve_left (by omega))
  · have hl2 := hl.resolve_left (by omega)
    by_cases e : j = k
    · subst e; exact absurd hl2 hnst
    · rw [updV_ne (by omega)]; exact h.st j hj hl2
  · exact h.st0 j hj (fun e => hl (.inr e))
  · exact ⟨.inr (h.so j hj (hl.resolve_left (by omega))).1, .inr (h.so j hj (hl.resolve_left (by omega))).2⟩
  · rw [updV_ne (by omega)]; exact h.rest c hc hn
theorem ApF.addr2 (h : ApF B base c0 K W u x y l g F C w) {k : Nat} (hk : k < K) (hr : 4 * K + 2 * k ∈ Region.ready .any ops l) :
    ApF B base c0 K W u x y (l.setIfInBounds (4 * K + 2 * k) true) (updV g (4 * K + k) (.pointer (some ⟨B, c0 + k, none⟩))) F C w := by
  refine ⟨h.bel, h.fam, h.box, fun j hj hl => ?_, fun j hj hl => ?_, fun j hj hl => ?_, fun j hj hl => ?_, fun j hj hl => ?_, fun j hj hl => ?_, fun j hj hl => ?_, fun j hj hl => ?_, fun j hj hl => ?_, h.rest⟩ <;> simp only [lst_set hr] at hl ⊢
  · rw [updV_ne (by omega)]; exact h.ad j hj (hl.resolve_left (by omega))
  · rw [updV_ne (by omega)]; exact h.ld j hj (hl.resolve_left (by omega))
  · rw [updV_ne (by omega)]; exact h.sl j hj (hl.resolve_left (by omega))
  · rw [updV_ne (by omega)]; exact h.ap j hj (hl.resolve_left (by omega))
  · exact h.ap0 j hj (fun e => hl (.inr e))
  · by_cases e : j = k
    · subst e; exact updV_same ..
    · rw [updV_ne (by omega)]; exact h.ad2 j hj (hl.resolve_left (by omega))
  · rw [updV_ne (by omega)]; exact h.st j hj (hl.resolve_left (by omega))
  · exact h.st0 j hj (fun e => hl (.inr e))
  · exact ⟨.inr (h.so j hj (hl.resolve_left (by omega))).1, .inr (h.so j hj (hl.resolve_left (by omega))).2⟩
theorem ApF.store (h : ApF B base c0 K W u x y l g F C w) (hcK : c0 + K ≤ 6) (hB : B < base) {k : Nat} (hk : k < K) (hr : 4 * K + 2 * k + 1 ∈ Region.ready .any ops l) (h1 : l.getD (4 * k + 1) false = true) (h3 : l.getD (4 * k + 3) false = true) :
    ApF B base c0 K W u x y (l.setIfInBounds (4 * K + 2 * k + 1) true) g F (updV C (c0 + k) (g (4 * k + 3))) (w.setCell ⟨B, c0 + k, none⟩ (g (4 * k + 3))) := by
  refine ⟨h.bel.cell (S := fun k => k = B) rfl _ _, h.fam.cell hB _ _, h.box.set (by omega) _, fun j hj hl => ?_, fun j hj hl => ?_, fun j hj hl => ?_, fun j hj hl => ?_, fun j hj hl => ?_, fun j hj hl => ?_, fun j hj hl => ?_, fun j hj hl => ?_, fun j hj hl => ?_, fun c hc hn => ?_⟩ <;> try simp only [lst_set hr] at hl ⊢
  · exact h.ad j hj (hl.resolve_left (by omega))
  · exact h.ld j hj (hl.resolve_left (by omega))
  · exact h.sl j hj (hl.resolve_left (by omega))
  · exact h.ap j hj (hl.resolve_left (by omega))
  · exact h.ap0 j hj (fun e => hl (.inr e))
  · exact h.ad2 j hj (hl.resolve_left (by omega))
  · by_cases e : j = k
    · subst e; exact updV_same ..
    · rw [updV_ne (by omega)]; exact h.st j hj (hl.resolve_left (by omega))
  · by_cases e : j = k
    · exact absurd (.inl (by rw [e])) hl
    · rw [updV_ne (by omega)]; exact h.st0 j hj (fun e => hl (.inr e))
  · by_cases e : j = k
    · subst e; exact ⟨.inr h1, .inr h3⟩
    · exact ⟨.inr (h.so j hj (hl.resolve_left (by omega))).1, .inr (h.so j hj (hl.resolve_left (by omega))).2⟩
  · rw [updV_ne (by omega)]; exact h.rest c hc hn
end

open Go.RowKit

def fam6 (u : Nat → Value) (x : Nat → List Value) : Nat → Option (Value × List Value) := fun c => if c < 6 then some (u c, x c) else none
theorem fam6_some {u : Nat → Value} {x : Nat → List Value} {c : Nat} (h : c < 6) : fam6 u x c = some (u c, x c) := if_pos h
theorem Fam.sub {w : World} {base : Nat} {F G : Nat → Option (Value × List Value)} (h : Fam w base F) (e : ∀ i r, G i = some r → F i = some r) : Fam w base G :=
  ⟨fun i v xs hi => h.own i v xs (e i _ hi), fun i j v xs v' xs' q hne hi hj => h.sep i j v xs v' xs' q hne (e i _ hi) (e j _ hj)⟩
theorem not_listed {n i : Nat} : ¬ (Array.replicate n false).getD i false = true := by
  intro h
  by_cases hi : i < n
  · simp [hi] at h
  · simp [hi] at h
set_option maxHeartbeats 1000000 in
theorem apps_region {ops : Array Oper} {B base c0 K t0 id : Nat} {W : World} {A : Act} {u : Nat → Value} {x : Nat → List Value} {y : Value} {Q : Exit → Act → World → Prop} (hy : y.oneCell' = true)
    (O : ApOps Try.prog ops B K t0 c0 y) (hm : Try.prog.follows .mixedOrders = true) (hcK : c0 + K ≤ 6) (hB : B < base) (hbw : base ≤ W.heap.size) (hA : A.eval (.tmp 3) = .pointer (some ⟨B, 0, none⟩)) (ht : 3 < t0) (hts : t0 + 5 * K ≤ A.tmps.size)
    (hbox : BoxC W B u) (hfam : Fam W base (fam6 u x)) (hlen : ∀ c, c < 6 → (x c).length + 1 ≤ 100000)
    (hQ : ∀ (g u' : Nat → Value) (w' : World), BelowS (fun k => k = B) base W w' → BoxC w' B u' → Fam w' base (fam6 u' (fun c => if c0 ≤ c ∧ c < c0 + K then x c ++ [y] else x c)) → Q .normal (puts A t0 (5 * K) g) w') :
    (Code.region id ops true).wp Try.prog Q A W := by
  refine wp_region_inv hm (J := fun l a w => ∃ g F C, a = puts A t0 (5 * K) g ∧ ApF B base c0 K W u x y l g F C w) ?_ ?_ O.ahead ?_
  · refine ⟨_, _, _, puts_self A t0 (5 * K), ⟨⟨rfl, rfl, rfl, Nat.le_refl _, fun _ _ _ => rfl⟩, hfam.drew, hbox, fun j hj hl => absurd hl not_listed, fun j hj hl => absurd hl not_listed, fun j hj hl => absurd hl not_listed, fun j hj hl => absurd hl not_listed, fun j hj _ => fam6_some (by omega), fun j hj hl => absurd hl not_listed, fun j hj hl => absurd hl not_listed, fun j hj _ => rfl, fun j hj hl => absurd hl not_listed, fun c hc _ => ⟨fam6_some hc, rfl⟩⟩⟩
  · rintro l a w i hs ⟨g, F, C, rfl, h⟩ hr
    have hi : i < 6 * K := by
      obtain ⟨hi, _⟩ := ready_lt hr
      rw [hs, O.size] at hi
      exact hi
    have hbw' : base ≤ w.heap.size := Nat.le_trans hbw h.bel.size
    have hA3 : (puts A t0 (5 * K) g).eval (.tmp 3) = .pointer (some ⟨B, 0, none⟩) := (puts_old ht).trans hA
    have hT : ∀ k, k < 5 * K → (puts A t0 (5 * K) g).eval (.tmp (t0 + k)) = g k := fun k hk => puts_tmp hts hk
    by_cases h4 : i < 4 * K
    · obtain ⟨k, r, hir, hr4⟩ : ∃ k r, i = 4 * k + r ∧ r < 4 := ⟨i / 4, i % 4, by omega, by omega⟩
      have hk : k < K := by omega
      obtain ⟨w1, w2, w3, w4, w5, w6⟩ := O.wait k hk
      match r, hr4 with
      | 0, _ =>
        rw [Nat.add_zero] at hir
        subst hir
        obtain ⟨o, ho, hg, hd, hrun⟩ := O.addr k hk
        refine wpOp_value ho hg (hrun _ w hA3) ?_
        rw [hd, puts_put A g (by omega)]
        exact ⟨_, _, _, rfl, h.addr hk hr⟩
      | 1, _ =>
        subst hir
        obtain ⟨o, ho, hg, hd, hrun⟩ := O.load k hk
        have hC : C (c0 + k) = u (c0 + k) := h.st0 k hk (fun e => lst_not hr (h.so k hk e).1)
        refine wpOp_value ho hg (hrun _ w (u (c0 + k)) ((hT _ (by omega)).trans (h.ad k hk (lst_waits hr w1))) ((h.box.cell (by omega)).1.trans (by rw [hC]))) ?_
        rw [hd, puts_put A g (by omega)]
        exact ⟨_, _, _, rfl, h.load hk hr⟩
      | 2, _ =>
        subst hir
        obtain ⟨o, ho, hg, hd, hrun⟩ := O.slice k hk
        refine wpOp_value ho hg (hrun _ w) ?_
        rw [hd, puts_put A g (by omega)]
        exact ⟨_, _, _, rfl, h.slice hcK hB hbw' hk hr⟩
      | 3, _ =>
        subst hir
        obtain ⟨o, ho, hg, hd, hop⟩ := O.app k hk
        have hF := h.ap0 k hk (lst_not hr)
        have hown := h.fam.own _ _ _ hF
        have hs1 := h.sl k hk (lst_waits hr w3)
        have hown2 := h.fam.own _ _ _ hs1
        have hL := hlen (c0 + k) (by omega)
        obtain ⟨i0, hi0, hz0, hz1, hz2⟩ := info_partsB info_int
        rcases hown2.2 with ⟨_, h0⟩ | ⟨q, c, cur, e1, hq, hcur, _, _, hsz, htk⟩
        · cases h0
        · have hcell := hown2.cells (g := q) (by rw [e1]; rfl)
          obtain ⟨v', w', hrun, h2, h3, _, h5⟩ := run_append_own_at (P := Try.prog) (w := w) base 29 o.type 3 i0 (.int .i64 0) 1 8 Try.underlying29 hi0 hz0 hz1 hz2 rfl (by decide) (u (c0 + k)) (x (c0 + k)).length (x (c0 + k)) hown ⟨q, 0, none⟩ 1 c [y] rfl hcell
            (fun z hz => by rw [List.mem_singleton.1 hz]; exact hy) (by unfold maxLen; omega) (by omega) hbw'
          refine wpOp_value (v := v') (w' := w') ho hg ?_ ?_
          · unfold execOp
            have ha1 : (puts A t0 (5 * K) g).eval (.tmp (t0 + (4 * k + 1))) = u (c0 + k) := (hT _ (by omega)).trans (h.ld k hk (lst_waits hr w2))
            have ha2 : (puts A t0 (5 * K) g).eval (.tmp (t0 + (4 * k + 2))) = .slice (some ⟨q, 0, none⟩) 1 c := (hT _ (by omega)).trans e1
            simp only [hop, resolve, invoke, builtin, Sem.run_bind, Sem.run_pure, Result.andThen_ok, List.map_toArray, List.map_cons, List.map_nil, ha1, ha2, hrun]
          · rw [hd, puts_put A g (by omega)]
            exact ⟨_, _, _, rfl, h.app hcK hB hbw' hk hr (by rw [List.length_append]; exact h2) h3 h5⟩
    · obtain ⟨k, r, hir, hr2⟩ : ∃ k r, i = 4 * K + 2 * k + r ∧ r < 2 := ⟨(i - 4 * K) / 2, (i - 4 * K) % 2, by omega, by omega⟩
      have hk : k < K := by omega
      obtain ⟨w1, w2, w3, w4, w5, w6⟩ := O.wait k hk
      match r, hr2 with
      | 0, _ =>
        rw [Nat.add_zero] at hir
        subst hir
        obtain ⟨o, ho, hg, hd, hrun⟩ := O.addr2 k hk
        refine wpOp_value ho hg (hrun _ w hA3) ?_
        rw [hd, puts_put A g (by omega)]
        exact ⟨_, _, _, rfl, h.addr2 hk hr⟩
      | 1, _ =>
        subst hir
        obtain ⟨o, ho, hg, hd, hrun⟩ := O.store k hk
        have h1 := lst_waits hr w6
        have h3 := lst_waits hr w5
        have hC : C (c0 + k) = u (c0 + k) := h.st0 k hk (lst_not hr)
        have hown := h.fam.own _ _ _ (h.ap k hk h3)
        refine wpOp_skip ho hg hd (hrun _ w (g (4 * k + 3)) ((hT _ (by omega)).trans (h.ad2 k hk (lst_waits hr w4))) (hT _ (by omega)) ?_ ?_ (h.box.cell (by omega)).2) ?_
        · obtain ⟨p, c, e⟩ := own_slice hown
          exact ⟨p, _, c, e⟩
        · obtain ⟨p, c, e⟩ := own_slice (hfam.own (c0 + k) _ _ (fam6_some (by omega)))
          exact ⟨p, _, c, (h.box.cell (by omega)).1.trans (by rw [hC, e])⟩
        · exact ⟨_, _, _, rfl, h.store hcK hB hk hr h1 h3⟩
  · rintro l a w ⟨g, F, C, rfl, h⟩ hall
    have hl : ∀ i, i < 6 * K → l.getD i false = true := fun i hi => hall i (by rw [O.size]; exact hi)
    refine hQ g C w h.bel h.box (h.fam.sub fun i r hr => ?_)
    unfold fam6 at hr
    by_cases hi : i < 6
    · rw [if_pos hi] at hr
      dsimp only at hr
      by_cases hin : c0 ≤ i ∧ i < c0 + K
      · obtain ⟨k, rfl⟩ : ∃ k, i = c0 + k := ⟨i - c0, by omega⟩
        rw [if_pos hin] at hr
        rw [← hr, h.ap k (by omega) (hl _ (by omega)), h.st k (by omega) (hl _ (by omega))]
      · rw [if_neg hin] at hr
        rw [← hr, (h.rest i hi hin).1, (h.rest i hi hin).2]
    · rw [if_neg hi] at hr
      cases hr
end Go.Proofs.Ytmelcohfjonjfaa
