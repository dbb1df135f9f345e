/- links: how the reference's Save makes the links, slot by slot: plain mathematics. -/
import Derived.Test.YtnbniflljbbpbaaLjMade
namespace Go.Proofs.Ytnbniflljbbpbaa

/-- The lists before i, l in place of list i, nothing behind it. -/
def prt (of : Nat → List Nat) (i : Nat) (l : List Nat) : Nat → List Nat := fun j => if j < i then of j else if j = i then l else []
theorem Rep.congr {n m : Nat} {of of' : Nat → List Nat} {F : LkF} (h : Rep n m of F) (e : ∀ j, j < m → of j = of' j) : Rep n m of' F :=
  ⟨fun i hi => e i hi ▸ h.nodup i hi, fun i hi => e i hi ▸ h.lt i hi, fun i j hi hj hne => e i hi ▸ e j hj ▸ h.disj i j hi hj hne, fun i hi => e i hi ▸ h.ends i hi, fun i hi => e i hi ▸ h.used i hi,
    fun x hx hf => h.free x hx (fun i hi => (e i hi).symm ▸ hf i hi)⟩
theorem rep_nil (n : Nat) (of : Nat → List Nat) (F : LkF) (hl : F.list = fun _ => -1) (hn : F.next = fun _ => -1) (hp : F.prev = fun _ => -1) : Rep n 0 of F :=
  ⟨(fun i hi => by omega), (fun i hi => by omega), (fun i j hi => by omega), (fun i hi => by omega), (fun i hi => by omega), fun x _ _ => ⟨by rw [hl], by rw [hn], by rw [hp]⟩⟩
/-- A list more, which is empty. -/
theorem rep_open {n i : Nat} {of : Nat → List Nat} {F : LkF} (h : Rep n i (prt of i []) F) : Rep n (i + 1) (prt of i []) { F with first := updF F.first i (-1), last := updF F.last i (-1) } := by
  have e : prt of i [] i = [] := by unfold prt; rw [if_neg (Nat.lt_irrefl _), if_pos rfl]
  refine ⟨fun j hj => ?_, fun j hj x hx => ?_, fun j k hj hk hne x hx hx2 => ?_, fun j hj => ?_, fun j hj x hx => ?_, fun x hx hf => ?_⟩
  · by_cases ej : j = i
    · rw [ej, e]; exact List.nodup_nil
    · exact h.nodup j (by omega)
  · by_cases ej : j = i
    · rw [ej, e] at hx; cases hx
    · exact h.lt j (by omega) x hx
  · by_cases ej : j = i
    · rw [ej, e] at hx; cases hx
    · by_cases ek : k = i
      · rw [ek, e] at hx2; cases hx2
      · exact h.disj j k (by omega) (by omega) hne x hx hx2
  · by_cases ej : j = i
    · rw [ej, e]; exact ⟨updF_same _ _ _, updF_same _ _ _⟩
    · show updF F.first i (-1) j = _ ∧ updF F.last i (-1) j = _
      rw [updF_other ej, updF_other ej]; exact h.ends j (by omega)
  · by_cases ej : j = i
    · rw [ej, e] at hx; cases hx
    · exact h.used j (by omega) x hx
  · exact h.free x hx (fun j hj => hf j (by omega))
/-- What Save writes for a slot x behind the list l. -/
def addF (F : LkF) (i x : Nat) (l : List Nat) : LkF :=
  { list := updF F.list x i
    next := if l = [] then F.next else updF F.next (lst l).toNat x
    prev := if l = [] then F.prev else updF F.prev x (lst l)
    first := if l = [] then updF F.first i x else F.first
    last := updF F.last i x }
theorem rep_add {n m : Nat} {of : Nat → List Nat} {F : LkF} (h : Rep n m of F) {i x : Nat} {l : List Nat} (hi : i < m) (hx : x < n) (hf : ∀ j, j < m → x ∉ of j) (hs : of i = l) :
    Rep n m (setOf of i (l ++ [x])) (addF F i x l) := by
  have hr := rep_link h hi hx hf (l := l) (r := []) (by rw [hs, List.append_nil])
  obtain ⟨f1, f2, f3⟩ := h.free x hx hf
  have ha : (if lst l = -1 then F.first i else F.next (lst l).toNat) = -1 := by
    have := (rep_at h hi (l := l) (r := []) (by rw [hs, List.append_nil])).2.1
    rw [this]; rfl
  have e : linkF F x i (lst l) = addF F i x l := by
    unfold linkF
    rw [ha]
    unfold tieF addF
    simp only [if_neg (ne_none x), if_true, toNat_cast]
    by_cases hl : l = []
    · subst hl
      have e1 : updF F.next x (-1) = F.next := by funext j; unfold updF; by_cases e : j = x; (rw [if_pos e, e, f2]); rw [if_neg e]
      have e2 : updF F.prev x (-1) = F.prev := by funext j; unfold updF; by_cases e : j = x; (rw [if_pos e, e, f3]); rw [if_neg e]
      simp [lst, e1, e2]
    · have hne : ¬ lst l = -1 := fun e => hl (lst_none.1 e)
      have e1 : updF (updF F.next (lst l).toNat x) x (-1) = updF F.next (lst l).toNat x := by
        obtain ⟨b, hb, eb⟩ := lst_mem hl
        have hbx : b ≠ x := fun e => hf i hi (by rw [hs, ← e]; exact hb)
        rw [eb, toNat_cast]
        funext j; unfold updF
        by_cases e : j = x
        · rw [if_pos e, if_neg (fun e2 => hbx (by omega)), e, f2]
        · rw [if_neg e]
      simp [hl, hne, e1]
  rw [e] at hr
  exact hr
theorem prt_add {of : Nat → List Nat} {i k : Nat} (hk : k < (of i).length) : setOf (prt of i ((of i).take k)) i ((of i).take k ++ [(of i)[k]]) = prt of i ((of i).take (k + 1)) := by
  funext j; unfold setOf prt
  by_cases e : j = i
  · subst e
    rw [if_pos rfl, if_neg (Nat.lt_irrefl _), if_pos rfl, List.take_add_one, List.getElem?_eq_getElem hk]; rfl
  · rw [if_neg e]
    by_cases e2 : j < i
    · rw [if_pos e2, if_pos e2]
    · rw [if_neg e2, if_neg e, if_neg e2, if_neg e]
theorem prt_next (of : Nat → List Nat) (i : Nat) : ∀ j, j < i + 1 → prt of i (of i) j = prt of (i + 1) [] j := by
  intro j hj
  unfold prt
  by_cases e : j < i
  · rw [if_pos e, if_pos (by omega)]
  · rw [if_neg e, if_pos (by omega), if_pos (by omega), show j = i by omega]
theorem prt_zero (of : Nat → List Nat) (m : Nat) : ∀ j, j < m → prt of m [] j = of j := fun j hj => if_pos hj
/-- One slot further: what is known of it. -/
theorem slot_free {n m : Nat} {of : Nat → List Nat} {G : LkF} (h : Rep n m of G) {i k : Nat} (hi : i < m) (hk : k < (of i).length) : (of i)[k] < n ∧ ∀ j, j < i + 1 → (of i)[k] ∉ prt of i ((of i).take k) j := by
  have hm : (of i)[k] ∈ of i := List.getElem_mem hk
  refine ⟨h.lt i hi _ hm, fun j hj hx => ?_⟩
  unfold prt at hx
  by_cases e : j < i
  · rw [if_pos e] at hx
    exact h.disj i j hi (by omega) (by omega) _ hm hx
  · rw [if_neg e, if_pos (by omega)] at hx
    have hnd := h.nodup i hi
    have e2 : of i = (of i).take k ++ (of i)[k] :: (of i).drop (k + 1) := by
      rw [← List.drop_eq_getElem_cons hk, List.take_append_drop]
    have hnd2 := hnd
    rw [e2] at hnd2
    exact (List.nodup_append.1 hnd2).2.2 _ hx _ (List.mem_cons_self ..) rfl
theorem take_nil {L : List Nat} {k : Nat} (hk : k < L.length) : L.take k = [] ↔ k = 0 := by
  constructor
  · intro h
    have h2 : (L.take k).length = 0 := by rw [h]; rfl
    rw [List.length_take] at h2
    omega
  · rintro rfl; rfl
theorem take_last {L : List Nat} {k : Nat} (hk : k < L.length) (h0 : k ≠ 0) : lst (L.take k) = natF L (k - 1) := by
  have hne : L.take k ≠ [] := fun e => h0 ((take_nil hk).1 e)
  rw [← natF_last hne]
  unfold natF
  rw [List.length_take, Nat.min_eq_left (by omega), List.getD_eq_getElem?_getD, List.getD_eq_getElem?_getD, List.getElem?_take_of_lt (by omega)]
end Go.Proofs.Ytnbniflljbbpbaa
