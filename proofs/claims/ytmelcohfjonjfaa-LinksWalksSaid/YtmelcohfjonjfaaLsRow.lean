/- links: the operations of the reference's Save's two drawn regions of appends, by what they do. -/
import Derived.Test.YtmelcohfjonjfaaLsAny
namespace Go.Proofs.Ytmelcohfjonjfaa
open Go.RowKit

def regOps (id : Nat) : Code → Array Oper
  | .region i ops _ => if i = id then ops else #[]
  | .seq a b => if (regOps id a).size = 0 then regOps id b else regOps id a
  | .cond _ a b => if (regOps id a).size = 0 then regOps id b else regOps id a
  | .block _ a => regOps id a
  | .loop a => regOps id a
  | _ => #[]
set_option maxRecDepth 100000 in
theorem ex_addr {o : Oper} {B c : Nat} (hc : c < 6) (ho : o.op = .fieldAddr 39 (.tmp 3) c) (a : Act) (w : World) (h : a.eval (.tmp 3) = .pointer (some ⟨B, 0, none⟩)) : (execOp a.eval o).run Try.prog w = .ok (.value (.pointer (some ⟨B, c, none⟩))) w := by
  unfold execOp
  rw [ho]
  simp only [h]
  match c, hc with
  | 0, _ => go_simp
  | 1, _ => go_simp
  | 2, _ => go_simp
  | 3, _ => go_simp
  | 4, _ => go_simp
  | 5, _ => go_simp
theorem ex_load {o : Oper} {p : Addr} {t : Nat} {v : Value} (ho : o.op = .load 29 (.tmp t)) (a : Act) (w : World) (h : a.eval (.tmp t) = .pointer (some p)) (hv : w.cell? p = some v) : (execOp a.eval o).run Try.prog w = .ok (.value v) w := by
  unfold execOp
  rw [ho]
  simp only [h]
  go_simp
theorem ex_slice {o : Oper} {z : Value} (ho : o.op = .buildSlice 29 1 #[(0, .const (.int .i64 (-1)))]) (a : Act) (w : World) : (execOp a.eval o).run Try.prog w = .ok (.value (.slice (some ⟨w.heap.size, 0, none⟩) 1 1)) (w.alloc (.cells #[.int .i64 (-1)] 3)) := by
  unfold execOp
  rw [ho]
  go_simp
theorem ex_store {o : Oper} {p : Addr} {t s : Nat} {v : Value} (ho : o.op = .store 29 (.tmp t) (.tmp s)) (a : Act) (w : World) (h : a.eval (.tmp t) = .pointer (some p)) (hs : a.eval (.tmp s) = v) (hv : ∃ q n c, v = .slice q n c) (hc : ∃ q n c, w.cell? p = some (.slice q n c)) (hf : w.frozen? p = false) :
    (execOp a.eval o).run Try.prog w = .ok .skip (w.setCell p v) := by
  obtain ⟨q, n, c, rfl⟩ := hv
  obtain ⟨q2, n2, c2, hc⟩ := hc
  unfold execOp
  rw [ho]
  simp only [h, hs]
  go_simp
set_option maxRecDepth 100000 in
theorem ap6 (B : Nat) : ApOps Try.prog (regOps 6 (Try.f20.body.getD .skip)) B 3 28 1 (.int .i64 (-1)) := by
  refine ⟨by kernel_rfl, by kernel_rfl, ?_, ?_, ?_, ?_, ?_, ?_, ?_⟩ <;> intro k hk
  · match k, hk with
    | 0, _ => exact ⟨_, rfl, rfl, rfl, fun a w h => ex_addr (by decide) rfl a w h⟩
    | 1, _ => exact ⟨_, rfl, rfl, rfl, fun a w h => ex_addr (by decide) rfl a w h⟩
    | 2, _ => exact ⟨_, rfl, rfl, rfl, fun a w h => ex_addr (by decide) rfl a w h⟩
  · match k, hk with
    | 0, _ => exact ⟨_, rfl, rfl, rfl, fun a w v h hv => ex_load rfl a w h hv⟩
    | 1, _ => exact ⟨_, rfl, rfl, rfl, fun a w v h hv => ex_load rfl a w h hv⟩
    | 2, _ => exact ⟨_, rfl, rfl, rfl, fun a w v h hv => ex_load rfl a w h hv⟩
  · match k, hk with
    | 0, _ => exact ⟨_, rfl, rfl, rfl, fun a w => ex_slice (z := .int .i64 (-1)) rfl a w⟩
    | 1, _ => exact ⟨_, rfl, rfl, rfl, fun a w => ex_slice (z := .int .i64 (-1)) rfl a w⟩
    | 2, _ => exact ⟨_, rfl, rfl, rfl, fun a w => ex_slice (z := .int .i64 (-1)) rfl a w⟩
  · match k, hk with
    | 0, _ => exact ⟨_, rfl, rfl, rfl, rfl⟩
    | 1, _ => exact ⟨_, rfl, rfl, rfl, rfl⟩
    | 2, _ => exact ⟨_, rfl, rfl, rfl, rfl⟩
  · match k, hk with
    | 0, _ => exact ⟨_, rfl, rfl, rfl, fun a w h => ex_addr (by decide) rfl a w h⟩
    | 1, _ => exact ⟨_, rfl, rfl, rfl, fun a w h => ex_addr (by decide) rfl a w h⟩
    | 2, _ => exact ⟨_, rfl, rfl, rfl, fun a w h => ex_addr (by decide) rfl a w h⟩
  · match k, hk with
    | 0, _ => exact ⟨_, rfl, rfl, rfl, fun a w v h hs hv hc hf => ex_store rfl a w h hs hv hc hf⟩
    | 1, _ => exact ⟨_, rfl, rfl, rfl, fun a w v h hs hv hc hf => ex_store rfl a w h hs hv hc hf⟩
    | 2, _ => exact ⟨_, rfl, rfl, rfl, fun a w v h hs hv hc hf => ex_store rfl a w h hs hv hc hf⟩
  · match k, hk with
    | 0, _ => exact ⟨by kernel_rfl, by kernel_rfl, by kernel_rfl, by kernel_rfl, by kernel_rfl, by kernel_rfl⟩
    | 1, _ => exact ⟨by kernel_rfl, by kernel_rfl, by kernel_rfl, by kernel_rfl, by kernel_rfl, by kernel_rfl⟩
    | 2, _ => exact ⟨by kernel_rfl, by kernel_rfl, by kernel_rfl, by kernel_rfl, by kernel_rfl, by kernel_rfl⟩
set_option maxRecDepth 100000 in
theorem ap10 (B : Nat) : ApOps Try.prog (regOps 10 (Try.f20.body.getD .skip)) B 2 52 4 (.int .i64 (-1)) := by
  refine ⟨by kernel_rfl, by kernel_rfl, ?_, ?_, ?_, ?_, ?_, ?_, ?_⟩ <;> intro k hk
  · match k, hk with
    | 0, _ => exact ⟨_, rfl, rfl, rfl, fun a w h => ex_addr (by decide) rfl a w h⟩
    | 1, _ => exact ⟨_, rfl, rfl, rfl, fun a w h => ex_addr (by decide) rfl a w h⟩
  · match k, hk with
    | 0, _ => exact ⟨_, rfl, rfl, rfl, fun a w v h hv => ex_load rfl a w h hv⟩
    | 1, _ => exact ⟨_, rfl, rfl, rfl, fun a w v h hv => ex_load rfl a w h hv⟩
  · match k, hk with
    | 0, _ => exact ⟨_, rfl, rfl, rfl, fun a w => ex_slice (z := .int .i64 (-1)) rfl a w⟩
    | 1, _ => exact ⟨_, rfl, rfl, rfl, fun a w => ex_slice (z := .int .i64 (-1)) rfl a w⟩
  · match k, hk with
    | 0, _ => exact ⟨_, rfl, rfl, rfl, rfl⟩
    | 1, _ => exact ⟨_, rfl, rfl, rfl, rfl⟩
  · match k, hk with
    | 0, _ => exact ⟨_, rfl, rfl, rfl, fun a w h => ex_addr (by decide) rfl a w h⟩
    | 1, _ => exact ⟨_, rfl, rfl, rfl, fun a w h => ex_addr (by decide) rfl a w h⟩
  · match k, hk with
    | 0, _ => exact ⟨_, rfl, rfl, rfl, fun a w v h hs hv hc hf => ex_store rfl a w h hs hv hc hf⟩
    | 1, _ => exact ⟨_, rfl, rfl, rfl, fun a w v h hs hv hc hf => ex_store rfl a w h hs hv hc hf⟩
  · match k, hk with
    | 0, _ => exact ⟨by kernel_rfl, by kernel_rfl, by kernel_rfl, by kernel_rfl, by kernel_rfl, by kernel_rfl⟩
    | 1, _ => exact ⟨by kernel_rfl, by kernel_rfl, by kernel_rfl, by kernel_rfl, by kernel_rfl, by kernel_rfl⟩
theorem puts_15 (A : Act) (g : Nat → Value) : puts A 28 (5 * 3) g = (((((((((((((((A.put (some 28) (g 0)).put (some 29) (g 1)).put (some 30) (g 2)).put (some 31) (g 3)).put (some 32) (g 4)).put (some 33) (g 5)).put (some 34) (g 6)).put (some 35) (g 7)).put (some 36) (g 8)).put (some 37) (g 9)).put (some 38) (g 10)).put (some 39) (g 11)).put (some 40) (g 12)).put (some 41) (g 13)).put (some 42) (g 14)) := rfl
theorem puts_10 (A : Act) (g : Nat → Value) : puts A 52 (5 * 2) g = ((((((((((A.put (some 52) (g 0)).put (some 53) (g 1)).put (some 54) (g 2)).put (some 55) (g 3)).put (some 56) (g 4)).put (some 57) (g 5)).put (some 58) (g 6)).put (some 59) (g 7)).put (some 60) (g 8)).put (some 61) (g 9)) := rfl

open Go.RowKit

def Tri (B base : Nat) (W2 : World) (u : Nat → Value) (x : Nat → List Value) (w : World) : Prop := BelowS (fun k => k = B) base W2 w ∧ BoxC w B u ∧ Fam w base (fam6 u x)
theorem IntC_upd {N : Nat} {f : Nat → Int} {j : Nat} (hj : j < N) (z : Int) : (IntC N f).set j (.int .i64 z) = IntC N (updF f j z) := by
  apply List.ext_getElem?
  intro i
  rw [List.getElem?_set]
  by_cases e : j = i
  · subst e
    rw [if_pos rfl, IntC_len, if_pos hj, IntC_get hj, updF_same]
  · rw [if_neg e]
    by_cases hi : i < N
    · rw [IntC_get hi, IntC_get hi, updF_other (Ne.symm e)]
    · rw [List.getElem?_eq_none (by rw [IntC_len]; omega), List.getElem?_eq_none (by rw [IntC_len]; omega)]
theorem IntC_app {k : Nat} {f : Nat → Int} {z : Int} : IntC k f ++ [Value.int .i64 z] = IntC (k + 1) (updF f k z) := by
  have h : IntC k f = IntC k (updF f k z) := by
    apply List.ext_getElem?
    intro i
    by_cases hi : i < k
    · rw [IntC_get hi, IntC_get hi, updF_other (by omega)]
    · rw [List.getElem?_eq_none (by rw [IntC_len]; omega), List.getElem?_eq_none (by rw [IntC_len]; omega)]
  have e : (Value.int .i64 z) = Value.int .i64 (updF f k z k) := by rw [updF_same]
  rw [h, e]
  unfold IntC
  rw [List.range_succ, List.map_append]
  rfl
theorem own_put {w : World} {base N : Nat} {v : Value} {f : Nat → Int} (h : w.ownsRow base 3 1 v N (IntC N f)) {j : Nat} (hj : j < N) : ∃ q cap, v = .slice (some ⟨q, 0, none⟩) N cap ∧ base ≤ q ∧ w.cell? ⟨q, j, none⟩ = some (.int .i64 (f j)) ∧ w.frozen? ⟨q, j, none⟩ = false ∧
    ∀ z : Int, (w.setCell ⟨q, j, none⟩ (.int .i64 z)).ownsRow base 3 1 v N (IntC N (updF f j z)) := by
  rcases h.2 with ⟨_, h0⟩ | ⟨q, cap, cur, e, hb, hq, hc, hm, hs, ht⟩
  · omega
  · have h2 : (cur.toList.take (N * 1))[j]? = (IntC N f)[j]? := by rw [ht]
    rw [List.getElem?_take_of_lt (by omega), Array.getElem?_toList, IntC_get hj] at h2
    refine ⟨q, cap, e, hb, row_cell hq h2, row_free hq, fun z => ⟨by rw [IntC_len, Nat.mul_one], .inr ⟨q, cap, _, e, hb, heap_set (i := j) (.int .i64 z) hq, hc, hm, by simpa using hs, ?_⟩⟩⟩
    rw [Array.toList_setIfInBounds, ← IntC_upd hj, ← ht, List.take_set]
theorem tri_row {B base : Nat} {W2 w : World} {u : Nat → Value} {x : Nat → List Value} (h : Tri B base W2 u x w) (hB : B < base) {c N : Nat} {f : Nat → Int} (hc : c < 6) (hx : x c = IntC N f) {j : Nat} (hj : j < N) :
    ∃ q cap, u c = .slice (some ⟨q, 0, none⟩) N cap ∧ w.cell? ⟨B, c, none⟩ = some (.slice (some ⟨q, 0, none⟩) N cap) ∧ w.cell? ⟨q, j, none⟩ = some (.int .i64 (f j)) ∧ w.frozen? ⟨q, j, none⟩ = false ∧ base ≤ q ∧
      ∀ z : Int, Tri B base W2 u (updV x c (IntC N (updF f j z))) (w.setCell ⟨q, j, none⟩ (.int .i64 z)) := by
  obtain ⟨hb, hbox, hfam⟩ := h
  have hown := hfam.own c _ _ (fam6_some hc)
  rw [hx, IntC_len] at hown
  obtain ⟨q, cap, e, hq, y, z, hset⟩ := own_put hown hj
  refine ⟨q, cap, e, by rw [← e]; exact (hbox.cell hc).1, y, z, hq, fun z => ⟨⟨hb.os, hb.tape, hb.output, by simpa [World.setCell] using hb.size, fun k hk hne => ?_⟩, hbox.keep (Below.heap_setCell _ _ _ _ (show B ≠ q by omega)), ?_, ?_⟩⟩
  · rw [Below.heap_setCell _ _ _ _ (show k ≠ q by omega)]
    exact hb.block k hk hne
  · intro i v xs hi
    unfold fam6 at hi
    by_cases h6 : i < 6
    · rw [if_pos h6] at hi
      cases hi
      by_cases ei : i = c
      · subst ei
        rw [updV_same, IntC_len]
        exact hset z
      · rw [updV_ne ei]
        have ho := hfam.own i _ _ (fam6_some h6)
        refine ho.kept (row := some q) ⟨rfl, rfl, rfl, by simp [World.setCell], fun k _ hk => Below.heap_setCell _ _ _ _ (fun e2 => hk (by rw [e2]))⟩ ?_
        cases hu : (u i).ownBlock with
        | none => exact .inl rfl
        | some q2 => exact .inr (fun e2 => hfam.sep i c _ _ _ _ q2 ei (fam6_some h6) (fam6_some hc) hu (by rw [e2, e]; rfl))
    · rw [if_neg h6] at hi; cases hi
  · intro i k v xs v' xs' q2 hne hi hk
    unfold fam6 at hi hk
    by_cases h6 : i < 6
    · by_cases h7 : k < 6
      · rw [if_pos h6] at hi
        rw [if_pos h7] at hk
        cases hi; cases hk
        exact hfam.sep i k _ _ _ _ q2 hne (fam6_some h6) (fam6_some h7)
      · rw [if_neg h7] at hk; cases hk
    · rw [if_neg h6] at hi; cases hi
/-- What the rows hold: the values, and the links G of r lists. -/
def XG (n : Nat) (v : Nat → Int) (G : LkF) (r : Nat) : Nat → List Value := fun c => if c = 0 then IntC n v else if c = 1 then IntC n G.list else if c = 2 then IntC n G.next else if c = 3 then IntC n G.prev else if c = 4 then IntC r G.first else IntC r G.last
theorem x1_xg {v : Nat → Int} {n : Nat} : ∀ c, c < 6 → (if c = 0 then IntC n v else if c < 4 then IntC n (fun _ => -1) else []) = XG n v { list := fun _ => -1, next := fun _ => -1, prev := fun _ => -1, first := fun _ => -1, last := fun _ => -1 } 0 c := by
  intro c hc
  match c, hc with
  | 0, _ => rfl
  | 1, _ => rfl
  | 2, _ => rfl
  | 3, _ => rfl
  | 4, _ => rfl
  | 5, _ => rfl
theorem xg_open {n r : Nat} {v : Nat → Int} {G : LkF} : ∀ c, c < 6 → (if 4 ≤ c ∧ c < 4 + 2 then XG n v G r c ++ [Value.int .i64 (-1)] else XG n v G r c) = XG n v { G with first := updF G.first r (-1), last := updF G.last r (-1) } (r + 1) c := by
  intro c hc
  match c, hc with
  | 0, _ => rfl
  | 1, _ => rfl
  | 2, _ => rfl
  | 3, _ => rfl
  | 4, _ => exact IntC_app
  | 5, _ => exact IntC_app
theorem xg_one {n r i s : Nat} {v : Nat → Int} {G : LkF} : ∀ c, c < 6 → updV (updV (updV (XG n v G r) 1 (IntC n (updF G.list s i))) 4 (IntC r (updF G.first i s))) 5 (IntC r (updF G.last i s)) c = XG n v (addF G i s []) r c := by
  intro c hc
  match c, hc with
  | 0, _ => rfl
  | 1, _ => rfl
  | 2, _ => rfl
  | 3, _ => rfl
  | 4, _ => rfl
  | 5, _ => rfl
theorem xg_more {n r i s p : Nat} {v : Nat → Int} {G : LkF} {l : List Nat} (hl : l ≠ []) (hp : lst l = p) : ∀ c, c < 6 → updV (updV (updV (updV (XG n v G r) 1 (IntC n (updF G.list s i))) 3 (IntC n (updF G.prev s p))) 2 (IntC n (updF G.next p s))) 5 (IntC r (updF G.last i s)) c = XG n v (addF G i s l) r c := by
  have e : addF G i s l = { list := updF G.list s i, next := updF G.next p s, prev := updF G.prev s p, first := G.first, last := updF G.last i s } := by
    unfold addF
    rw [if_neg hl, if_neg hl, if_neg hl, hp, toNat_cast]
  rw [e]
  intro c hc
  match c, hc with
  | 0, _ => rfl
  | 1, _ => rfl
  | 2, _ => rfl
  | 3, _ => rfl
  | 4, _ => rfl
  | 5, _ => rfl
theorem Tri.congr {B base : Nat} {W2 w : World} {u : Nat → Value} {x y : Nat → List Value} (h : Tri B base W2 u x w) (e : ∀ c, c < 6 → x c = y c) : Tri B base W2 u y w :=
  ⟨h.1, h.2.1, h.2.2.sub fun i r hr => by
    unfold fam6 at hr ⊢
    by_cases h6 : i < 6
    · rw [if_pos h6] at hr ⊢
      rw [← hr, e i h6]
    · rw [if_neg h6] at hr; cases hr⟩
theorem xg_len {n r : Nat} {v : Nat → Int} {G : LkF} (hn : n ≤ 2000) (hr : r ≤ 2000) : ∀ c, c < 6 → (XG n v G r c).length + 1 ≤ 100000 := by
  intro c hc
  match c, hc with
  | 0, _ => show (IntC n _).length + 1 ≤ _; rw [IntC_len]; omega
  | 1, _ => show (IntC n _).length + 1 ≤ _; rw [IntC_len]; omega
  | 2, _ => show (IntC n _).length + 1 ≤ _; rw [IntC_len]; omega
  | 3, _ => show (IntC n _).length + 1 ≤ _; rw [IntC_len]; omega
  | 4, _ => show (IntC r _).length + 1 ≤ _; rw [IntC_len]; omega
  | 5, _ => show (IntC r _).length + 1 ≤ _; rw [IntC_len]; omega
theorem own_sl2 {w : World} {base N : Nat} {v : Value} {f : Nat → Int} (h : w.ownsRow base 3 1 v N (IntC N f)) : SlF w v N f := by
  rcases h.2 with ⟨e, h0⟩ | ⟨q, cap, cur, e, _⟩
  · subst h0
    exact ⟨none, 0, e, fun j hj => by omega⟩
  · refine ⟨_, cap, e, fun j hj => ?_⟩
    obtain ⟨q2, cap2, e2, _, y, _⟩ := own_put h hj
    rw [e] at e2
    cases e2
    exact ⟨q, rfl, World.block_lt_of_cell? _ _ y, y⟩
theorem prt_here (of : Nat → List Nat) (i : Nat) (l : List Nat) : prt of i l i = l := by unfold prt; rw [if_neg (Nat.lt_irrefl _), if_pos rfl]
/-- One slot further. -/
theorem rep_step {n m r k : Nat} {of : Nat → List Nat} {F0 G : LkF} (h0 : Rep n m of F0) (hr : r < m) {L : List Nat} (hL : L = of r) (hk : k < L.length) (h : Rep n (r + 1) (prt of r (L.take k)) G) :
    ∃ s : Nat, natF L k = (s : Int) ∧ s < n ∧ Rep n (r + 1) (prt of r (L.take (k + 1))) (addF G r s (L.take k)) := by
  subst hL
  obtain ⟨h1, h2⟩ := slot_free h0 hr hk
  refine ⟨(of r)[k], ?_, h1, ?_⟩
  · unfold natF
    rw [List.getD_eq_getElem?_getD, List.getElem?_eq_getElem hk]
    rfl
  · have := rep_add h (i := r) (x := (of r)[k]) (l := (of r).take k) (by omega) h1 h2 (prt_here ..)
    rw [prt_add hk] at this
    exact this
theorem rep_prev {n m r k : Nat} {of : Nat → List Nat} {F0 : LkF} (h0 : Rep n m of F0) (hr : r < m) {L : List Nat} (hL : L = of r) (hk : k < L.length) (hk0 : k ≠ 0) :
    ∃ p : Nat, natF L (k - 1) = (p : Int) ∧ p < n ∧ lst (L.take k) = p ∧ L.take k ≠ [] := by
  subst hL
  have hk1 : k - 1 < (of r).length := by omega
  have e : natF (of r) (k - 1) = (((of r)[k - 1] : Nat) : Int) := by
    unfold natF
    rw [List.getD_eq_getElem?_getD, List.getElem?_eq_getElem hk1]
    rfl
  exact ⟨(of r)[k - 1], e, h0.lt r hr _ (List.getElem_mem hk1), (take_last hk hk0).trans e, fun h => hk0 ((take_nil hk).1 h)⟩
theorem Tri.drew {B base : Nat} {W2 w : World} {u : Nat → Value} {x : Nat → List Value} (h : Tri B base W2 u x w) : Tri B base W2 u x w.drew := ⟨⟨h.1.os, h.1.tape, h.1.output, h.1.size, h.1.block⟩, h.2.1, h.2.2.drew⟩
/-- The state that Save hands back. -/
theorem tri_st {base n m : Nat} {w : World} {u : Nat → Value} {v : Nat → Int} {G : LkF} (h : Fam w base (fam6 u (XG n v G m))) : StF w (.agg #[u 0, u 1, u 2, u 3, u 4, u 5]) n m v G := by
  have ho : ∀ (c N : Nat) (f : Nat → Int), c < 6 → XG n v G m c = IntC N f → SlF w (u c) N f := fun c N f hc e => by
    have := h.own c _ _ (fam6_some hc)
    rw [e, IntC_len] at this
    exact own_sl2 this
  exact ⟨⟨_, _, _, _, _, _, rfl, ho 0 _ _ (by decide) rfl, ho 1 _ _ (by decide) rfl, ho 2 _ _ (by decide) rfl, ho 3 _ _ (by decide) rfl, ho 4 _ _ (by decide) rfl, ho 5 _ _ (by decide) rfl⟩⟩
def set6 (w : World) (R : Nat) (a b c d e f : Value) : World := (((((w.setCell ⟨R, 0, none⟩ a).setCell ⟨R, 1, none⟩ b).setCell ⟨R, 2, none⟩ c).setCell ⟨R, 3, none⟩ d).setCell ⟨R, 4, none⟩ e).setCell ⟨R, 5, none⟩ f
def RSavePost (n m : Nat) (v : Nat → Int) (of : Nat → List Nat) (W : World) (e : Ending) (W' : World) : Prop := ∃ s F, e = .returned s ∧ StF W' s n m v F ∧ Rep n m of F ∧ Below W.heap.size W W'
theorem rsave_fin {R B base n m : Nat} {W W2 wx : World} {u : Nat → Value} {v : Nat → Int} {G : LkF} {of : Nat → List Nat} (h : Tri B base W2 u (XG n v G m) wx) (hr : Rep n m of G) (h0 : Below R W W2) (hR : R = W.heap.size) (hB : B = R + 1) (hbase : base = R + 2) {a b c d e f : Value} (ea : u 0 = a) (eb : u 1 = b) (ec : u 2 = c) (ed : u 3 = d) (ee : u 4 = e) (ef : u 5 = f) :
    RSavePost n m v of W (.returned (.agg #[a, b, c, d, e, f])) (set6 wx R a b c d e f) := by
  subst ea eb ec ed ee ef
  have hRb : R < base := by omega
  refine ⟨_, G, rfl, tri_st (((((((h.2.2).cell hRb 0 _).cell hRb 1 _).cell hRb 2 _).cell hRb 3 _).cell hRb 4 _).cell hRb 5 _), hr, ?_⟩
  have hb : Below R W wx := h0.trans ⟨h.1.os, h.1.tape, h.1.output, h.1.size, fun k hk => h.1.block k (by omega) (by omega)⟩
  rw [← hR]
  exact (((((hb.setCell (p := ⟨R, 0, none⟩) (Nat.le_refl _) _).setCell (p := ⟨R, 1, none⟩) (Nat.le_refl _) _).setCell (p := ⟨R, 2, none⟩) (Nat.le_refl _) _).setCell (p := ⟨R, 3, none⟩) (Nat.le_refl _) _).setCell (p := ⟨R, 4, none⟩) (Nat.le_refl _) _).setCell (p := ⟨R, 5, none⟩) (Nat.le_refl _) _
theorem tri_slice {B base : Nat} {W2 w : World} {u : Nat → Value} {x : Nat → List Value} (h : Tri B base W2 u x w) {c : Nat} (hc : c < 6) : ∃ p k a, u c = .slice p k a ∧ w.cell? ⟨B, c, none⟩ = some (.slice p k a) := by
  obtain ⟨p, a, e⟩ := own_slice (h.2.2.own c _ _ (fam6_some hc))
  exact ⟨p, _, a, e, by rw [← e]; exact (h.2.1.cell hc).1⟩
end Go.Proofs.Ytmelcohfjonjfaa
