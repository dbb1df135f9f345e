/- WordsAppend: the walk. -/
import Derived.Test.YtboigkmaccdkpaaGreatDoorWLeast
namespace Go.Proofs.YtboigkmaccdkpaaGreatDoor
open Go.RowKit Go.Shelf

theorem expr_split {s t : List UInt8} {L : List Int} (h : Expr (s ++ 44 :: t) L) : ∃ l m, Expr s l ∧ Expr t m ∧ L = l ++ m := by
  unfold Expr at h
  rw [pieces_join] at h
  exact ⟨_, _, ⟨fun p hp => h.1 p (List.mem_append_left _ hp), rfl⟩, ⟨fun p hp => h.1 p (List.mem_append_right _ hp), rfl⟩, by rw [← h.2, List.flatMap_append]⟩
theorem parse_long {s : List UInt8} {l : List Int} (h : Expr s l) (hs : s.length ≤ 2500) (hl : 500 < l.length) : parseR s = ([], 3) := by
  have hok : ∀ p ∈ pieces 44 s, (itemR p).2 = true := fun p hp => by rw [(shape_item (h.1 p hp)).1]
  have hne : s ≠ [] := by
    rintro rfl
    have := h.1 [] (by simp [pieces])
    exact absurd rfl (shape_item this).2.2.1
  unfold parseR
  rw [if_neg (by omega), if_neg hne, if_pos (by rw [List.all_eq_true]; exact hok)]
  unfold expandR
  rw [if_neg, if_pos]
  · have := flat_length (expr_good hok)
    rw [flat_map, h.2] at this; omega
  · rw [List.any_eq_true]
    rintro ⟨r, hr, hb⟩
    obtain ⟨p, hp, rfl⟩ := List.mem_map.1 hr
    have := (shape_item (h.1 p hp)).2.2.2
    simp at hb; omega
theorem app_err {s t : List UInt8} (hs : s ≠ []) (ht : t ≠ []) (hl : s.length + t.length < 2500) (h : (parseR (s ++ 44 :: t)).2 = 0) : (parseR s).2 = 0 ∧ (parseR t).2 = 0 := by
  obtain ⟨h1, h2, h3⟩ := expr_parse (l := (parseR (s ++ 44 :: t)).1) (by simp) (Prod.ext rfl h)
  obtain ⟨l, m, e1, e2, e3⟩ := expr_split h1
  rw [e3, List.length_append] at h2
  rw [parse_expr e1 (by omega) (by omega), parse_expr e2 (by omega) (by omega)]
  exact ⟨rfl, rfl⟩
theorem app_ok {s t : List UInt8} {l m : List Int} (hs : s ≠ []) (ht : t ≠ []) (hl : s.length + t.length < 2500) (h1 : parseR s = (l, 0)) (h2 : parseR t = (m, 0)) :
    l ≠ [] ∧ m ≠ [] ∧ l.length ≤ 500 ∧ m.length ≤ 500 ∧ listR l = (canonL l, 0) ∧ listR m = (canonL m, 0) ∧ ((canonL l).length ≤ 2500 ∧ (canonL m).length ≤ 2500) ∧
    (500 < l.length + m.length → parseR (s ++ 44 :: t) = ([], 3)) ∧
    (l.length + m.length ≤ 500 → parseR (s ++ 44 :: t) = (l ++ m, 0) ∧ listR (l ++ m) = (canonL (l ++ m), 0) ∧ (canonL (l ++ m)).length ≤ (canonL l).length + 1 + (canonL m).length) := by
  obtain ⟨a1, a2, a3⟩ := expr_parse hs h1
  obtain ⟨b1, b2, b3⟩ := expr_parse ht h2
  obtain ⟨c1, c2⟩ := expr_nums _ s l (Nat.le_refl _) a1
  obtain ⟨d1, d2⟩ := expr_nums _ t m (Nat.le_refl _) b1
  have hx := expr_app a1 b1
  have hlen : (s ++ 44 :: t).length ≤ 2500 := by simp; omega
  refine ⟨c1, d1, a2, b2, listR_ok a2 c2, listR_ok b2 d2, ⟨by have := (canon_expr _ l (Nat.le_refl _) c1 a2 c2).2; omega, by have := (canon_expr _ m (Nat.le_refl _) d1 b2 d2).2; omega⟩, fun h => parse_long hx hlen (by rw [List.length_append]; exact h), fun h => ?_⟩
  have hr : ∀ n ∈ l ++ m, 0 ≤ n ∧ n ≤ 9999 := fun n hn => by
    rcases List.mem_append.1 hn with hn | hn
    · exact c2 n hn
    · exact d2 n hn
  have h5 : (l ++ m).length ≤ 500 := by rw [List.length_append]; exact h
  refine ⟨parse_expr hx hlen h5, listR_ok h5 hr, ?_⟩
  have e1 := (canon_expr _ l (Nat.le_refl _) c1 a2 c2).1
  have e2 := (canon_expr _ m (Nat.le_refl _) d1 b2 d2).1
  have := canon_least _ _ _ (Nat.le_refl _) (expr_app e1 e2) h5
  rw [le_iff] at this
  simp only [List.length_append, List.length_cons] at this
  rcases this with h | ⟨h, _⟩ <;> omega
theorem row_shape {W : World} {base : Nat} {v : Value} {l : List Int} (h : W.ownsRow base 3 1 v l.length (intCells l)) (h0 : l ≠ []) : ∃ g cap, v = .slice (some ⟨g, 0, none⟩) l.length cap := by
  obtain ⟨h1, ⟨rfl, h2⟩ | ⟨g, cap, cur, rfl, hg, hh, hc, _⟩⟩ := h
  · exact absurd (List.length_eq_zero_iff.1 h2) h0
  · exact ⟨g, cap, rfl⟩
theorem IntsAtL.below {w w' : World} {v : Value} {xs : List Int} (h : IntsAtL w v xs) (hb : Below w.heap.size w w') : IntsAtL w' v xs := by
  rcases h with h | ⟨h0, g, off, cap, e, hg, hcap, hc⟩
  · exact .inl h
  · exact .inr ⟨h0, g, off, cap, e, Nat.lt_of_lt_of_le hg hb.size, hcap, fun j hj => (hb.cell (p := ⟨g, off + j, none⟩) hg).trans (hc j hj)⟩
theorem append_on {P : Program} {w : World} {ops : Array Oper} {rest : List Oper} {o : Oper} {a : Act} {Q : Exit → Act → World → Prop} (hgd : Region.wanted o (yielded ops a.tmps) = true) (s x : Operand) (t : TypeId)
    (ho : o.op = .call { callee := .builtin .append, args := #[s, x], argTypes := #[t, t] })
    (base : Nat) (e : TypeId) (i : TypeInfo) (z : Value) (size bytes : Nat) (ht : P.underlying t = some (.slice e)) (hi : P.info? e = some i) (hz : i.zero = some z)
    (hsize : i.size = size) (hby : i.bytes = bytes) (hzs : z.cells.size = size) (hsz : 0 < size)
    (v : Value) (n : Nat) (xs : List Value) (hs : a.eval s = v) (hown : w.ownsRow base e size v n xs)
    (ad : Addr) (m c : Nat) (news : List Value) (hx : a.eval x = .slice (some ad) m c) (hl : news.length = m * size) (hnews : ∀ j u, news[j]? = some u → w.cell? (ad.add j) = some u) (h1 : ∀ u ∈ news, u.oneCell' = true)
    (h63 : n + m ≤ maxLen) (hbytes : (n + m) * bytes ≤ 140737488355328) (hbase : base ≤ w.heap.size)
    (h : ∀ v' w', w'.ownsRow base e size v' (n + m) (xs ++ news) → w.grownBy w' v.ownBlock → (v' = .slice none 0 0 ↔ v = .slice none 0 0 ∧ m = 0) → wpList P ops Q rest (a.put o.dst v') w') : wpList P ops Q (o :: rest) a w :=
  wpList_step fun _ hK => by
    rw [if_pos hgd]
    exact wp_append_own w s x t ho base e i z size bytes ht hi hz hsize hby hzs hsz v n xs hs hown ad m c news hx hl hnews h1 h63 hbytes hbase fun v' w' h2 h3 h4 => hK _ _ (h v' w' h2 h3 h4)
theorem al_below' (W : World) (o : Obj) : Below W.heap.size W (W.alloc o) := (Below.refl _ _).alloc (Nat.le_refl _) _
theorem intCells_len (l : List Int) : (intCells l).length = l.length * 1 := by simp [intCells]
theorem intCells_one (l : List Int) : ∀ u ∈ intCells l, u.oneCell' = true := by
  intro u hu
  obtain ⟨n, _, rfl⟩ := List.mem_map.1 hu
  rfl
theorem cells_app {l : List Int} {W : World} {g : Nat} (h : ∀ j, j < l.length → W.cell? ⟨g, 0 + j, none⟩ = some (.int .i64 (at0 l j))) : ∀ j u, (intCells l)[j]? = some u → W.cell? ((⟨g, 0, none⟩ : Addr).add j) = some u := by
  intro j u hu
  have hj : j < l.length := by
    have := (List.getElem?_eq_some_iff.1 hu).1
    simpa [intCells] using this
  rw [WideShapes.add_plain, h j hj, ← hu]
  exact (intCells_at0 l j hj).symm
theorem empty_row (W : World) : (W.alloc (.cells #[] 3)).ownsRow W.heap.size 3 1 (.slice (some ⟨W.heap.size, 0, none⟩) 0 0) 0 [] :=
  ⟨rfl, .inr ⟨W.heap.size, 0, #[], rfl, Nat.le_refl _, heap_alloc_new _ _, Nat.le_refl _, Nat.zero_le _, rfl, rfl⟩⟩
theorem intsAt_of {W : World} {v : Value} {l : List Int} (h : IntsAtL W v l) : IntsAt W v l := by
  rcases h with h | ⟨_, g, off, cap, e, hg, _, hc⟩
  · exact .inl h
  · exact .inr ⟨g, off, cap, e, hg, hc⟩
theorem app_ints {W : World} {base : Nat} {v : Value} {l m B : List Int} (hB : l ++ m = B) (h : W.ownsRow base 3 1 v (0 + l.length + m.length) ([] ++ intCells l ++ intCells m)) : IntsAt W v B := by
  refine intsAt_row (base := base) ?_
  rw [← hB, List.length_append]
  have e : intCells (l ++ m) = [] ++ intCells l ++ intCells m := by simp [intCells]
  rw [e, ← Nat.zero_add l.length]
  exact h
theorem cat_list (s t : ByteArray) : (s ++ ⟨#[44]⟩ ++ t : ByteArray).data.toList = s.data.toList ++ 44 :: t.data.toList := by simp
theorem cat_size (s t : ByteArray) : (s ++ ⟨#[44]⟩ ++ t : ByteArray).size = s.size + 1 + t.size := by rw [← size_list, cat_list]; simp; omega

set_option maxHeartbeats 4000000 in
set_option maxRecDepth 100000 in
theorem append_in (s t : ByteArray) (w : World) (he : Env w) (hs0 : 0 < s.size) (ht0 : 0 < t.size) (hst : s.size + t.size < 2500) : Calls Tryz.prog 7 #[.string s, .string t] w fun e w' => e = .returned (.bool true) ∧ Below w.heap.size w w' := by
  have c0 := fun W hE => shown_any W hE
  have C0 := Lib.hid c0
  have HE := Lib.hid he
  have f1 : ((s.size : Int) == 0) = false := beq_eq_false_iff_ne.2 (by omega)
  have f2 : ((t.size : Int) == 0) = false := beq_eq_false_iff_ne.2 (by omega)
  have f3 : ¬ (3000 : Int) < s.size := by omega
  have f4 : ¬ (3000 : Int) < t.size := by omega
  have f5 : ¬ (2500 : Int) ≤ (s.size : Int) + t.size := by omega
  have hsn : s.data.toList ≠ [] := by intro e; rw [← size_list, e] at hs0; exact absurd hs0 (by decide)
  have htn : t.data.toList ≠ [] := by intro e; rw [← size_list, e] at ht0; exact absurd ht0 (by decide)
  have hlen : s.data.toList.length + t.data.toList.length < 2500 := by rw [size_list, size_list]; exact hst
  have c1 := fun W hE => parse_any s W hE (by unfold maxLen; omega)
  have c2 := fun W hE => parse_any t W hE (by unfold maxLen; omega)
  have c3 := fun W hE => parse_any (s ++ ⟨#[44]⟩ ++ t) W hE (by rw [cat_size]; unfold maxLen; omega)
  unfold ParsePost at c1 c2 c3
  rw [cat_list] at c3
  have he1 := app_err hsn htn hlen
  have he2 := parseR_err (s.data.toList ++ 44 :: t.data.toList)
  have hok := @app_ok s.data.toList t.data.toList
  generalize parseR s.data.toList = rs at c1 he1 hok
  generalize parseR t.data.toList = rt at c2 he1 hok
  generalize parseR (s.data.toList ++ 44 :: t.data.toList) = rb at c3 he1 he2 hok
  obtain ⟨l, e1⟩ := rs
  obtain ⟨m, e2⟩ := rt
  obtain ⟨b, e3⟩ := rb
  simp only at c1 c2 c3 he1 he2
  have C1 := Lib.hid c1; have C2 := Lib.hid c2; have C3 := Lib.hid c3
  clear c0 c1 c2 c3 he
  by_cases hz : e1 = 0 ∧ e2 = 0
  · obtain ⟨rfl, rfl⟩ := hz
    obtain ⟨g1, g2, g3, g4, g5, g6, ⟨x1, x2⟩, g7, g8⟩ := hok hsn htn hlen rfl rfl
    clear hok he1 he2 hsn htn hlen
    by_cases h5 : 500 < l.length + m.length
    · have h5' : (500 : Int) < (l.length : Int) + m.length := by omega
      obtain ⟨rfl, rfl⟩ := Prod.mk.inj (g7 h5)
      clear g5 g6 g7 g8
      go_enter Tryz.func7, Tryz.ntmps7
      go_upto_region 6 with (first
      | (go_at_call 25; refine (C1.out _ HE.out).mono ?_; rintro e w1 ⟨a1, rfl, hown1, hb1⟩; have HO1 := Lib.hid hown1; have HB1 := Lib.hid hb1; clear hown1 hb1 C1)
      | (go_at_call 25; refine (C2.out _ (HE.out.below HB1.out)).mono ?_; rintro e w2 ⟨a2, rfl, hown2, hb2⟩; have HO12 := Lib.hid (ownsRow_below HO1.out hb2); have HO2 := Lib.hid hown2; have HB2 := Lib.hid (HB1.out.trans (hb2.mono HB1.out.size)); clear hown2 hb2 C2 HO1)
      | (go_at_call 25; refine (C3.out _ (HE.out.below HB2.out)).mono ?_; rintro e w3 ⟨a3, rfl, hown3, hb3⟩; have HO13 := Lib.hid (ownsRow_below HO12.out hb3); have HO23 := Lib.hid (ownsRow_below HO2.out hb3); have HO3 := Lib.hid hown3; have HB3 := Lib.hid (HB2.out.trans (hb3.mono HB2.out.size)); clear hown3 hb3 C3 HO12 HO2))
      obtain ⟨p3, cap3, rfl⟩ := slice_of (intsAt_row HO3.out)
      obtain ⟨q1, cap1', rfl⟩ := row_shape HO13.out g1
      obtain ⟨q2, cap2', rfl⟩ := row_shape HO23.out g2
      go_wp2_with (go_at_call 14; refine (C0.out _ (HE.out.below HB3.out)).mono ?_; rintro e w5 ⟨rfl, hb5⟩; have HB5 := Lib.hid (HB3.out.trans (hb5.mono HB3.out.size)); clear hb5)
      go_ret
      exact ⟨rfl, HB5.out⟩
    · have h5' : ¬ (500 : Int) < (l.length : Int) + m.length := by omega
      obtain ⟨k1, k2, k3⟩ := g8 (by omega)
      obtain ⟨rfl, rfl⟩ := Prod.mk.inj k1
      clear g7 g8 k1
      obtain ⟨B, hB⟩ : ∃ B, l ++ m = B := ⟨_, rfl⟩
      have hBl : B.length ≤ 500 := by rw [← hB, List.length_append]; omega
      have hbn : B ≠ [] := by rw [← hB]; simp [g1]
      have d4 := fun (v : Value) (W : World) (hE : Env W) (h : IntsAtL W v l) => list_any v l W hE h (by unfold maxLen; omega)
      have d5 := fun (v : Value) (W : World) (hE : Env W) (h : IntsAtL W v m) => list_any v m W hE h (by unfold maxLen; omega)
      have d6 := fun (v : Value) (W : World) (hE : Env W) (h : IntsAtL W v B) => list_any v B W hE h (by unfold maxLen; omega)
      have d7 := fun (a b : Value) (W : World) (ha : IntsAt W a B) (hb : IntsAt W b B) => ints_any a b B B W ha hb (by unfold maxLen; omega) (by unfold maxLen; omega)
      have ht : decide (B = B) = true := decide_eq_true rfl
      rw [ht] at d7
      rw [hB] at k2 k3 C3
      unfold ListPost at d4 d5 d6
      rw [g5] at d4; rw [g6] at d5; rw [k2] at d6
      simp only at d4 d5 d6
      have hc : ((canonL B).length : Int) ≤ ((canonL l).length : Int) + 1 + (canonL m).length := by omega
      generalize canonL B = X3 at d6 hc
      generalize canonL l = X1 at d4 hc x1
      generalize canonL m = X2 at d5 hc x2
      have D4 := Lib.hid d4; have D5 := Lib.hid d5; have D6 := Lib.hid d6; have D7 := Lib.hid d7
      obtain ⟨i0, hi, hz0, hz1, hz2⟩ := info_parts info_int
      have HI := Lib.hid hi; have HZ0 := Lib.hid hz0; have HZ1 := Lib.hid hz1; have HZ2 := Lib.hid hz2
      have hm1 : 0 + l.length ≤ maxLen := by unfold maxLen; omega
      have hm2 : (0 + l.length) * 8 ≤ 140737488355328 := by omega
      have hm3 : 0 + l.length + m.length ≤ maxLen := by unfold maxLen; omega
      have hm4 : (0 + l.length + m.length) * 8 ≤ 140737488355328 := by omega
      have HBE := Lib.hid hB; clear hB
      have HM1 := Lib.hid hm1; have HM2 := Lib.hid hm2; have HM3 := Lib.hid hm3; have HM4 := Lib.hid hm4
      clear d4 d5 d6 d7 ht g5 g6 k2 k3 hi hz0 hz1 hz2 hm1 hm2 hm3 hm4
      go_enter Tryz.func7, Tryz.ntmps7
      go_upto_region 6 with (first
      | (go_at_call 25; refine (C1.out _ HE.out).mono ?_; rintro e w1 ⟨a1, rfl, hown1, hb1⟩; have HO1 := Lib.hid hown1; have HB1 := Lib.hid hb1; clear hown1 hb1 C1)
      | (go_at_call 25; refine (C2.out _ (HE.out.below HB1.out)).mono ?_; rintro e w2 ⟨a2, rfl, hown2, hb2⟩; have HO12 := Lib.hid (ownsRow_below HO1.out hb2); have HO2 := Lib.hid hown2; have HB2 := Lib.hid (HB1.out.trans (hb2.mono HB1.out.size)); clear hown2 hb2 C2 HO1)
      | (go_at_call 25; refine (C3.out _ (HE.out.below HB2.out)).mono ?_; rintro e w3 ⟨a3, rfl, hown3, hb3⟩; have HO13 := Lib.hid (ownsRow_below HO12.out hb3); have HO23 := Lib.hid (ownsRow_below HO2.out hb3); have HO3 := Lib.hid hown3; have HB3 := Lib.hid (HB2.out.trans (hb3.mono HB2.out.size)); clear hown3 hb3 C3 HO12 HO2))
      obtain ⟨p3, cap3, rfl⟩ := row_shape HO3.out hbn
      obtain ⟨q1, cap1', rfl⟩ := row_shape HO13.out g1
      obtain ⟨q2, cap2', rfl⟩ := row_shape HO23.out g2
      have hi3 := intsAtL_row HO3.out; have hi1 := intsAtL_row HO13.out; have hi2 := intsAtL_row HO23.out
      have I1 := Lib.hid hi1; have I2 := Lib.hid hi2; have I3 := Lib.hid hi3
      clear hi1 hi2 hi3 HO3 HO13 HO23
      go_upto_region 11 with (go_at_call 23; refine (D4.out _ _ (HE.out.below HB3.out) I1.out).mono ?_; rintro e w4 ⟨rfl, hb⟩; have HB4 := Lib.hid (HB3.out.trans (hb.mono HB3.out.size)); have J1 := Lib.hid (I1.out.below hb); have J2 := Lib.hid (I2.out.below hb); have J3 := Lib.hid (I3.out.below hb); clear hb D4 I1 I2 I3)
      go_upto_region 12 with (go_at_call 23; refine (D5.out _ _ (HE.out.below HB4.out) J2.out).mono ?_; rintro e w5 ⟨rfl, hb⟩; have HB5 := Lib.hid (HB4.out.trans (hb.mono HB4.out.size)); have K1 := Lib.hid (J1.out.below hb); have K2 := Lib.hid (J2.out.below hb); have K3 := Lib.hid (J3.out.below hb); clear hb D5 J1 J2 J3)
      go_upto_region 13 with (go_at_call 23; refine (D6.out _ _ (HE.out.below HB5.out) K3.out).mono ?_; rintro e w6 ⟨rfl, hb⟩; have HB6 := Lib.hid (HB5.out.trans (hb.mono HB5.out.size)); have L1 := Lib.hid (K1.out.below hb); have L2 := Lib.hid (K2.out.below hb); have L3 := Lib.hid (K3.out.below hb); clear hb D6 K1 K2 K3)
      rcases L1.out with ⟨e, _⟩ | ⟨_, y1, o1, cc1, ye1, yg1, _, yc1⟩
      · exact absurd e g1
      rcases L2.out with ⟨e, _⟩ | ⟨_, y2, o2, cc2, ye2, yg2, _, yc2⟩
      · exact absurd e g2
      cases ye1
      cases ye2
      have ba := al_below' w6 (.cells #[] 3)
      have n1 := cells_app (l := l) (W := w6.alloc (.cells #[] 3)) (g := q1) (fun j hj => (ba.cell (p := ⟨q1, 0 + j, none⟩) yg1).trans (yc1 j hj))
      have n2 := fun (W : World) (hb : Below w6.heap.size w6 W) => cells_app (l := m) (W := W) (g := q2) (fun j hj => (hb.cell (p := ⟨q2, 0 + j, none⟩) yg2).trans (yc2 j hj))
      have hemp := empty_row w6
      have N1 := Lib.hid n1; have N2 := Lib.hid n2; have BA := Lib.hid ba; have HEMP := Lib.hid hemp
      have I3 := Lib.hid (intsAt_of L3.out)
      clear yc1 yc2 n1 n2 ba hemp L1 L2 L3
      go_wp2_with (first
        | (at_builtin; refine append_on (by first | rfl | go_simp) _ _ 31 rfl w6.heap.size 3 i0 (.int .i64 0) 1 8 Tryz.underlying31 HI.out HZ0.out HZ1.out HZ2.out rfl (by decide) (.slice (some ⟨w6.heap.size, 0, none⟩) 0 0) 0 [] rfl HEMP.out ⟨q1, 0, none⟩ l.length cap1' (intCells l) rfl (intCells_len l) N1.out (intCells_one l) HM1.out HM2.out BA.out.size ?_; intro v7 w7 hown7 hgrow7 hnil7; clear N1; have HO7 := Lib.hid hown7; have B7 := Lib.hid (BA.out.grown hgrow7 BA.out.size (fun k e => by cases e; exact Nat.le_refl _)); clear hown7 hgrow7 hnil7 HEMP)
        | (at_builtin; refine append_on (by first | rfl | go_simp) _ _ 31 rfl w6.heap.size 3 i0 (.int .i64 0) 1 8 Tryz.underlying31 HI.out HZ0.out HZ1.out HZ2.out rfl (by decide) v7 (0 + l.length) ([] ++ intCells l) rfl HO7.out ⟨q2, 0, none⟩ m.length cap2' (intCells m) rfl (intCells_len m) (N2.out _ B7.out) (intCells_one m) HM3.out HM4.out B7.out.size ?_; intro v8 w8 hown8 hgrow8 hnil8; have HO8 := Lib.hid hown8; have B8 := Lib.hid (B7.out.grown hgrow8 B7.out.size (own_block HO7.out)); clear hown8 hgrow8 hnil8 N2)
        | (go_at_call 27; refine (D7.out _ _ _ (I3.out.below B8.out) (app_ints HBE.out HO8.out)).mono ?_; rintro e w9 ⟨rfl, hb⟩; have HB9 := Lib.hid ((HB6.out.trans (B8.out.mono HB6.out.size)).trans (hb.mono (Nat.le_trans HB6.out.size B8.out.size))); clear hb)
        | (go_at_call 14; refine (C0.out _ (HE.out.below HB9.out)).mono ?_; rintro e w10 ⟨rfl, hb⟩; have HB10 := Lib.hid (HB9.out.trans (hb.mono HB9.out.size)); clear hb))
      go_ret
      exact ⟨rfl, HB10.out⟩
  · have h3 : e3 ≠ 0 := fun e => hz (he1 e)
    obtain rfl : b = [] := he2 h3
    have k3 : (e3 == 0) = false := beq_eq_false_iff_ne.2 h3
    have k3' : (e3 != 0) = true := by rw [bne, k3]; rfl
    clear hok he1 he2 hsn htn hlen h3
    by_cases h1 : e1 = 0
    · have h2 : e2 ≠ 0 := fun e => hz ⟨h1, e⟩
      have k2 : (e2 == 0) = false := beq_eq_false_iff_ne.2 h2
      have k2' : (e2 != 0) = true := by rw [bne, k2]; rfl
      subst h1
      clear hz h2
      go_enter Tryz.func7, Tryz.ntmps7
      go_upto_region 6 with (first
      | (go_at_call 25; refine (C1.out _ HE.out).mono ?_; rintro e w1 ⟨a1, rfl, hown1, hb1⟩; have HO1 := Lib.hid hown1; have HB1 := Lib.hid hb1; clear hown1 hb1 C1)
      | (go_at_call 25; refine (C2.out _ (HE.out.below HB1.out)).mono ?_; rintro e w2 ⟨a2, rfl, hown2, hb2⟩; have HO12 := Lib.hid (ownsRow_below HO1.out hb2); have HO2 := Lib.hid hown2; have HB2 := Lib.hid (HB1.out.trans (hb2.mono HB1.out.size)); clear hown2 hb2 C2 HO1)
      | (go_at_call 25; refine (C3.out _ (HE.out.below HB2.out)).mono ?_; rintro e w3 ⟨a3, rfl, hown3, hb3⟩; have HO13 := Lib.hid (ownsRow_below HO12.out hb3); have HO23 := Lib.hid (ownsRow_below HO2.out hb3); have HO3 := Lib.hid hown3; have HB3 := Lib.hid (HB2.out.trans (hb3.mono HB2.out.size)); clear hown3 hb3 C3 HO12 HO2))
      obtain ⟨p3, cap3, rfl⟩ := slice_of (intsAt_row HO3.out)
      go_wp2_with (go_at_call 14; refine (C0.out _ (HE.out.below HB3.out)).mono ?_; rintro e w5 ⟨rfl, hb5⟩; have HB5 := Lib.hid (HB3.out.trans (hb5.mono HB3.out.size)); clear hb5)
      go_ret
      exact ⟨rfl, HB5.out⟩
    · have k1 : (e1 == 0) = false := beq_eq_false_iff_ne.2 h1
      have k1' : (e1 != 0) = true := by rw [bne, k1]; rfl
      clear hz h1
      go_enter Tryz.func7, Tryz.ntmps7
      go_upto_region 6 with (first
      | (go_at_call 25; refine (C1.out _ HE.out).mono ?_; rintro e w1 ⟨a1, rfl, hown1, hb1⟩; have HO1 := Lib.hid hown1; have HB1 := Lib.hid hb1; clear hown1 hb1 C1)
      | (go_at_call 25; refine (C2.out _ (HE.out.below HB1.out)).mono ?_; rintro e w2 ⟨a2, rfl, hown2, hb2⟩; have HO12 := Lib.hid (ownsRow_below HO1.out hb2); have HO2 := Lib.hid hown2; have HB2 := Lib.hid (HB1.out.trans (hb2.mono HB1.out.size)); clear hown2 hb2 C2 HO1)
      | (go_at_call 25; refine (C3.out _ (HE.out.below HB2.out)).mono ?_; rintro e w3 ⟨a3, rfl, hown3, hb3⟩; have HO13 := Lib.hid (ownsRow_below HO12.out hb3); have HO23 := Lib.hid (ownsRow_below HO2.out hb3); have HO3 := Lib.hid hown3; have HB3 := Lib.hid (HB2.out.trans (hb3.mono HB2.out.size)); clear hown3 hb3 C3 HO12 HO2))
      obtain ⟨p3, cap3, rfl⟩ := slice_of (intsAt_row HO3.out)
      go_wp2_with (go_at_call 14; refine (C0.out _ (HE.out.below HB3.out)).mono ?_; rintro e w5 ⟨rfl, hb5⟩; have HB5 := Lib.hid (HB3.out.trans (hb5.mono HB3.out.size)); clear hb5)
      go_ret
      exact ⟨rfl, HB5.out⟩
set_option maxHeartbeats 2000000 in
theorem append_walk (s t : ByteArray) (w : World) (he : Env w) (hs : s.size ≤ maxLen) (ht : t.size ≤ maxLen) : Calls Tryz.prog 7 #[.string s, .string t] w fun e w' => e = .returned (.bool true) ∧ Below w.heap.size w w' := by
  have c0 := fun W hE => shown_any W hE
  have C0 := Lib.hid c0
  have HE := Lib.hid he
  clear c0
  by_cases hs0 : s.size = 0
  · have f1 : ((s.size : Int) == 0) = true := by rw [hs0]; rfl
    clear he hs ht hs0
    go_enter Tryz.func7, Tryz.ntmps7
    go_wp2_with (go_at_call 14; refine (C0.out _ HE.out).mono ?_; rintro e w' ⟨rfl, hb⟩)
    go_ret
    exact ⟨rfl, hb⟩
  · have f1 : ((s.size : Int) == 0) = false := beq_eq_false_iff_ne.2 (by omega)
    by_cases ht0 : t.size = 0
    · have f2 : ((t.size : Int) == 0) = true := by rw [ht0]; rfl
      clear he hs ht hs0 ht0
      go_enter Tryz.func7, Tryz.ntmps7
      go_wp2_with (go_at_call 14; refine (C0.out _ HE.out).mono ?_; rintro e w' ⟨rfl, hb⟩)
      go_ret
      exact ⟨rfl, hb⟩
    · have f2 : ((t.size : Int) == 0) = false := beq_eq_false_iff_ne.2 (by omega)
      by_cases hs3 : 3000 < s.size
      · have f3 : (3000 : Int) < s.size := by omega
        clear he hs ht hs0 ht0
        go_enter Tryz.func7, Tryz.ntmps7
        go_wp2_with (go_at_call 14; refine (C0.out _ HE.out).mono ?_; rintro e w' ⟨rfl, hb⟩)
        go_ret
        exact ⟨rfl, hb⟩
      · have f3 : ¬ (3000 : Int) < s.size := by omega
        by_cases ht3 : 3000 < t.size
        · have f4 : (3000 : Int) < t.size := by omega
          clear he hs ht hs0 ht0
          go_enter Tryz.func7, Tryz.ntmps7
          go_wp2_with (go_at_call 14; refine (C0.out _ HE.out).mono ?_; rintro e w' ⟨rfl, hb⟩)
          go_ret
          exact ⟨rfl, hb⟩
        · have f4 : ¬ (3000 : Int) < t.size := by omega
          by_cases hsum : 2500 ≤ s.size + t.size
          · have f5 : (2500 : Int) ≤ (s.size : Int) + t.size := by omega
            clear he hs ht hs0 ht0
            go_enter Tryz.func7, Tryz.ntmps7
            go_wp2_with (go_at_call 14; refine (C0.out _ HE.out).mono ?_; rintro e w' ⟨rfl, hb⟩)
            go_ret
            exact ⟨rfl, hb⟩
          · exact append_in s t w he (by omega) (by omega) (by omega)
end Go.Proofs.YtboigkmaccdkpaaGreatDoor
