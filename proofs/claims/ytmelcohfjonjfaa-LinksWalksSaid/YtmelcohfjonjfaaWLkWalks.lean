/- links: the law LinksWalks. -/
import Derived.Test.YtmelcohfjonjfaaLwSwap
import Derived.Test.YtmelcohfjonjfaaLsSave
import Derived.Deep.RegionHeld3
import Derived.Laws.ResultCell
namespace Go.Proofs.Ytmelcohfjonjfaa
open Go.RowKit Go.Shelf
attribute [local go_sem] Oper.semAt_some

theorem ret_walks {tmps : Array Value} {w : World} {R : Nat} {b : Bool} (hp : tmps.getD 6 undef = .pointer (some ⟨R, 0, none⟩)) (hg : w.cell? ⟨R, 0, none⟩ = some (.bool b)) :
    (results Try.f5 tmps).run Try.prog w = .ok (.bool b) w := by
  have hp' : tmps[6]?.getD undef = .pointer (some ⟨R, 0, none⟩) := by simpa using hp
  simp [results, Try.results5, hp', asAddr, loadVar, hg, go_sem]
def arr3 (a b c : Int) : Value := .agg #[.int .u8 a, .int .u8 b, .int .u8 c]
def hwO (a b c : Int) : Obj := .cells #[.int .u8 a, .int .u8 b, .int .u8 c] 55
/-- The three boxes that the law lays first. -/
theorem three_boxes (W : World) (s a b c : Int) : (let V := ((W.alloc (.cells #[.int .i64 s] 3)).alloc (.cells #[.int .u8 a, .int .u8 b, .int .u8 c] 55)).alloc (.cells #[.bool false] 4)
    Below W.heap.size W V ∧ V.heap.size = W.heap.size + 3 ∧ V.heap[W.heap.size]? = some (.cells #[.int .i64 s] 3 (0, 0)) ∧ V.heap[W.heap.size + 1]? = some (.cells #[.int .u8 a, .int .u8 b, .int .u8 c] 55 (0, 0)) ∧ V.heap[W.heap.size + 1 + 1]? = some (.cells #[.bool false] 4 (0, 0))) :=
  alloc3 W _ _ _
set_option maxHeartbeats 4000000 in
set_option maxRecDepth 100000 in
theorem walks_far {W : World} {p : Option Addr} {len cap : Nat} (s a b c : Int) (hs : s < 1 ∨ 60 < s ∨ 60 < (len : Int)) :
    Calls Try.prog 5 #[.int .i64 s, .slice p len cap, arr3 a b c] W (TruePost W) := by
  have CA := Lib.hid awake_any
  obtain ⟨hb, hsz, h3, h5, h6⟩ := three_boxes W s a b c
  have c3 := row_cell (i := 0) h3 rfl
  have HB := Lib.hid hb; have HSZ := Lib.hid hsz; have H6 := Lib.hid h6
  clear hb hsz h3 h5 h6
  unfold arr3
  by_cases h1 : s < 1
  · clear hs
    go_enter Try.func5, Try.ntmps5
    go_wp2_with fail
    clear c3
    generalize ((W.alloc (.cells #[.int .i64 s] 3)).alloc (.cells #[.int .u8 a, .int .u8 b, .int .u8 c] 55)).alloc (.cells #[.bool false] 4) = V at *
    refine (CA.out _).mono ?_
    rintro e w1 ⟨rfl, hb⟩
    have h6 := (hb.block (W.heap.size + 1 + 1) (by rw [HSZ.out]; omega)).trans H6.out
    have c6 : w1.cell? ⟨W.heap.size + 1 + 1, 0, none⟩ = some (.bool false) := row_cell (i := 0) h6 rfl
    have f6 := row_free (i := 0) h6
    have HB1 := Lib.hid (HB.out.trans (hb.mono HB.out.size))
    have HX := Lib.hid (row_cell (i := 0) (set_row1 (v := .bool true) h6) rfl)
    clear hb h6
    go_wp2_with fail
    try simp only [Exit.inBlock, Exit.then]
    refine bodyPost_ret (ret_walks rfl HX.out) rfl ?_
    exact ⟨rfl, HB1.out.setCell (p := ⟨W.heap.size + 1 + 1, 0, none⟩) (by show W.heap.size ≤ W.heap.size + 1 + 1; omega) _⟩
  · by_cases h2 : 60 < s
    · clear hs
      go_enter Try.func5, Try.ntmps5
      go_wp2_with fail
      clear c3
      generalize ((W.alloc (.cells #[.int .i64 s] 3)).alloc (.cells #[.int .u8 a, .int .u8 b, .int .u8 c] 55)).alloc (.cells #[.bool false] 4) = V at *
      refine (CA.out _).mono ?_
      rintro e w1 ⟨rfl, hb⟩
      have h6 := (hb.block (W.heap.size + 1 + 1) (by rw [HSZ.out]; omega)).trans H6.out
      have c6 : w1.cell? ⟨W.heap.size + 1 + 1, 0, none⟩ = some (.bool false) := row_cell (i := 0) h6 rfl
      have f6 := row_free (i := 0) h6
      have HB1 := Lib.hid (HB.out.trans (hb.mono HB.out.size))
      have HX := Lib.hid (row_cell (i := 0) (set_row1 (v := .bool true) h6) rfl)
      clear hb h6
      go_wp2_with fail
      try simp only [Exit.inBlock, Exit.then]
      refine bodyPost_ret (ret_walks rfl HX.out) rfl ?_
      exact ⟨rfl, HB1.out.setCell (p := ⟨W.heap.size + 1 + 1, 0, none⟩) (by show W.heap.size ≤ W.heap.size + 1 + 1; omega) _⟩
    · have h3 : 60 < (len : Int) := by omega
      clear hs
      go_enter Try.func5, Try.ntmps5
      go_wp2_with fail
      clear c3
      generalize ((W.alloc (.cells #[.int .i64 s] 3)).alloc (.cells #[.int .u8 a, .int .u8 b, .int .u8 c] 55)).alloc (.cells #[.bool false] 4) = V at *
      refine (CA.out _).mono ?_
      rintro e w1 ⟨rfl, hb⟩
      have h6 := (hb.block (W.heap.size + 1 + 1) (by rw [HSZ.out]; omega)).trans H6.out
      have c6 : w1.cell? ⟨W.heap.size + 1 + 1, 0, none⟩ = some (.bool false) := row_cell (i := 0) h6 rfl
      have f6 := row_free (i := 0) h6
      have HB1 := Lib.hid (HB.out.trans (hb.mono HB.out.size))
      have HX := Lib.hid (row_cell (i := 0) (set_row1 (v := .bool true) h6) rfl)
      clear hb h6
      go_wp2_with fail
      try simp only [Exit.inBlock, Exit.then]
      refine bodyPost_ret (ret_walks rfl HX.out) rfl ?_
      exact ⟨rfl, HB1.out.setCell (p := ⟨W.heap.size + 1 + 1, 0, none⟩) (by show W.heap.size ≤ W.heap.size + 1 + 1; omega) _⟩
/-- A region's orders, gathered: what they all leave is said once. -/
theorem region_mid {P : Program} {id : Nat} {ops : Array Oper} {A : Act} {w : World} {Q : Exit → Act → World → Prop} (Qm : Act → Act → World → Prop)
    (h1 : (Code.region id ops true).wp P (fun e a w' => e = .normal ∧ Qm A a w') A w) (h2 : ∀ a w', Qm A a w' → Q .normal a w') : (Code.region id ops true).wp P Q A w :=
  wp_mono h1 fun e a w' ⟨he, hm⟩ => by subst he; exact h2 a w' hm
theorem puts_8 (A : Act) (t : Nat) (f : Nat → Value) : puts A t 8 f = (((((((A.put (some (t + 0)) (f 0)).put (some (t + 1)) (f 1)).put (some (t + 2)) (f 2)).put (some (t + 3)) (f 3)).put (some (t + 4)) (f 4)).put (some (t + 5)) (f 5)).put (some (t + 6)) (f 6)).put (some (t + 7)) (f 7) := rfl
structure HoldG (p : Prop) : Prop where
  out : p
theorem unhold {p : Prop} (h : HoldG p) : p := h.out
theorem listIn_app {n0 : Nat} {ops : Array Oper} {rest : List Oper} {o : Oper} {a : Act} {w : World} {Q : Exit → Act → World → Prop} (hgd : o.guard = none) (s x : Operand)
    (ho : o.op = .call { callee := .builtin .append, args := #[s, x], argTypes := #[29, 29] }) (v : Value) (n : Nat) (xs : List Value) (hs : a.eval s = v) {base : Nat} (hown : w.ownsRow base 3 1 v n xs)
    (xv : Value) (m : Nat) (f : Nat → Int) (hx : a.eval x = xv) (hnews : NewsAt w xv m f) (hb : base ≤ w.heap.size) (hnm : n + m ≤ 100000)
    (h : ∀ v' w', w'.ownsRow base 3 1 v' (n + m) (xs ++ IntC m f) → Below base w w' → wpListIn Fence.wide n0 Try.prog ops Q rest (a.put o.dst v') w') :
    wpListIn Fence.wide n0 Try.prog ops Q (o :: rest) a w := by
  obtain ⟨v', w', hr, h2, h3⟩ := run_app o.type hown hnews hb hnm
  refine wpListIn_plain hgd fun K hK => ⟨fun _ _ => trivial, ?_⟩
  rw [Oper.semAt_eq _ _ _ (by rw [ho]; intro c e; cases e)]
  unfold execOp
  simp only [ho, resolve, invoke, builtin, Sem.run_bind, Sem.run_pure, Result.andThen_ok, List.map_toArray, List.map_cons, List.map_nil, hs, hx, hr]
  exact hK _ _ (h v' w' h2 ((Below.refl base w).grown h3 hb (fun k e => (hown.lt k e).1)))
theorem slK_news {K : Nat → Prop} {W : World} {u : Value} {l : List Nat} (h : SlK K W u l) : NewsAt W u l.length (natF l) := by
  rcases h with ⟨e, rfl⟩ | ⟨q, c, e, _, _, _, hx⟩
  · exact .inl ⟨e, rfl⟩
  · exact .inr ⟨q, 0, c, e, fun j hj => by rw [Nat.zero_add]; exact hx j hj⟩
theorem slK_slF {K : Nat → Prop} {W : World} {u : Value} {l : List Nat} (h : SlK K W u l) : SlF W u l.length (natF l) := by
  rcases h with ⟨e, rfl⟩ | ⟨q, c, e, _, _, hq, hx⟩
  · exact ⟨none, 0, e, fun j hj => by cases hj⟩
  · exact ⟨_, c, e, fun j hj => ⟨q, rfl, hq, hx j hj⟩⟩
theorem allL_rev (m : Nat) (of : Nat → List Nat) (z : Int) : allL m of z true = (allL m of z false).reverse := by
  unfold allL
  split <;> rfl
theorem natF_rev {l : List Nat} {k : Nat} (hk : k < l.length) : natF l.reverse (l.length - 1 - k) = natF l k := by
  unfold natF
  rw [List.getD_eq_getElem?_getD, List.getD_eq_getElem?_getD, List.getElem?_reverse (by omega)]
  congr 3
  omega
theorem allL_in (of : Nat → List Nat) {i : Nat} (hi : i < 3) : allL 3 of (i : Int) false = of i := by
  unfold allL
  rcases listE_cases 3 (i : Int) with ⟨e, h⟩ | ⟨e, _⟩
  · exfalso; omega
  · rw [e, if_pos rfl, toNat_cast]; rfl
theorem allL_out (of : Nat → List Nat) {z : Int} (hz : ¬ (0 ≤ z ∧ z < 3)) : allL 3 of z false = [] := by
  unfold allL
  rcases listE_cases 3 z with ⟨e, h⟩ | ⟨e, k, rfl, hk⟩
  · rw [e, if_neg (by decide)]
  · exfalso; omega
/-- How many slots have been met before the k-th list. -/
def metS (of : Nat → List Nat) : Nat → Nat
  | 0 => 0
  | k + 1 => metS of k + (allL 3 of ((k : Int) - 1) false).length
theorem metS_mono (of : Nat → List Nat) : ∀ {a b : Nat}, a ≤ b → metS of a ≤ metS of b := by
  intro a b h
  induction h with
  | refl => exact Nat.le_refl _
  | step _ ih => exact Nat.le_trans ih (Nat.le_add_right _ _)
theorem metS_all {n : Nat} {of : Nat → List Nat} {F : LkF} (h : Rep n 3 of F) : metS of 5 ≤ n := by
  have e : metS of 5 = (of 0).length + (of 1).length + (of 2).length := by
    simp [metS, allL, listE, ordL]
  rw [e]
  have hnd : (of 0 ++ of 1 ++ of 2).Nodup := by
    rw [List.nodup_append, List.nodup_append]
    refine ⟨⟨h.nodup 0 (by omega), h.nodup 1 (by omega), ?_⟩, h.nodup 2 (by omega), ?_⟩
    · intro a ha b hb e; subst e; exact h.disj 0 1 (by omega) (by omega) (by omega) a ha hb
    · intro a ha b hb e; subst e
      rcases List.mem_append.1 ha with ha | ha
      · exact h.disj 0 2 (by omega) (by omega) (by omega) a ha hb
      · exact h.disj 1 2 (by omega) (by omega) (by omega) a ha hb
  have := List.Nodup.length_le_of_subset hnd (l₂ := List.range n) (fun x hx => List.mem_range.2 (by
    rcases List.mem_append.1 hx with hx | hx
    · rcases List.mem_append.1 hx with hx | hx
      · exact h.lt 0 (by omega) x hx
      · exact h.lt 1 (by omega) x hx
    · exact h.lt 2 (by omega) x hx))
  simp at this
  omega
/-- What holds of the boxes that the law has laid, whatever else is written (S, from D on). -/
structure WkBox (W : World) (P : JP) (K b8 : Nat) (n : Nat) (h0 h1 h2 : Int) : Prop where
  c3 : W.cell? ⟨K, 0, none⟩ = some (.int .i64 (n : Int))
  y0 : W.cell? ⟨K + 1, 0, none⟩ = some (.int .u8 h0)
  y1 : W.cell? ⟨K + 1, 1, none⟩ = some (.int .u8 h1)
  y2 : W.cell? ⟨K + 1, 2, none⟩ = some (.int .u8 h2)
  c6 : W.cell? ⟨K + 1 + 1, 0, none⟩ = some (.bool false)
  f6 : W.frozen? ⟨K + 1 + 1, 0, none⟩ = false
  c7 : W.cell? ⟨b8, 0, none⟩ = some (.pointer (some ⟨P.B, 0, none⟩))
  c8 : W.cell? ⟨b8 + 1, 0, none⟩ = some (.pointer (some ⟨P.C, 0, none⟩))
set_option maxHeartbeats 8000000 in
set_option maxRecDepth 100000 in
theorem walks_near {W : World} {p : Option Addr} {n len cap h0 h1 h2 : Nat} (nn : 1 ≤ n ∧ n ≤ 60) (hl : len ≤ 60) (hx : CallsAt W p len) (hh0 : h0 ≤ 255) (hh1 : h1 ≤ 255) (hh2 : h2 ≤ 255) :
    CallsIn Fence.wide 3 Try.prog 5 #[.int .i64 (n : Int), .slice p len cap, arr3 h0 h1 h2] W (TruePost W) := by
  refine callsIn_of_wp_marks Try.func5 rfl trivial ?_ rfl
  simp only [Try.ntmps5, List.size_toArray, List.length_cons, List.length_nil, Nat.reduceAdd, Nat.reduceSub, Array.replicate_succ, Array.replicate_zero, List.push_toArray, List.append_toArray, List.nil_append, List.cons_append]
  have hwf : ∀ f, Fence.wide.fn f := fun _ => trivial
  have hwd : Fence.wide.depth.isSome = false := rfl
  have CA := Lib.hid awake_any
  obtain ⟨hb, hsz, h3, h5, h6⟩ := three_boxes W n h0 h1 h2
  obtain ⟨W1, hW1⟩ : ∃ W1, W1 = ((W.alloc (.cells #[.int .i64 (n : Int)] 3)).alloc (.cells #[.int .u8 (h0 : Int), .int .u8 (h1 : Int), .int .u8 (h2 : Int)] 55)).alloc (.cells #[.bool false] 4) := ⟨_, rfl⟩
  rw [← hW1] at hb hsz h3 h5 h6
  have CM := Lib.hid (made_any (W := W1) (n := n) (m := 3) (cap := cap) (by omega) (by omega) (hx.below hb) (by omega))
  have HB1 := Lib.hid hb; have HS1 := Lib.hid hsz; have H3 := Lib.hid h3; have H5 := Lib.hid h5; have H6 := Lib.hid h6
  have HNN := Lib.hid nn; have HH0 := Lib.hid hh0; have HH1 := Lib.hid hh1; have HH2 := Lib.hid hh2
  have i1 : ¬ (n : Int) < 1 := by omega
  have i2 : ¬ (60 : Int) < n := by omega
  have i3 : ¬ (60 : Int) < len := by omega
  have c3 := row_cell (i := 0) h3 rfl
  rw [hW1] at c3
  unfold arr3
  clear hb hsz h3 h5 h6 hx nn hl hh0 hh1 hh2
  gi_wp2_with (gi_at_call 25; rw [← hW1]; refine (callsIn_wide.2 CM.out).mono ?_; rintro e w1 ⟨⟨B, n', m', D, C, g, gv, cg, cv, base⟩, v, of, hPn, hPm, rfl, J⟩; dsimp only at hPn hPm J; subst hPn hPm)
  clear c3 CM i1 i2 i3
  clear hW1
  obtain ⟨z1, z2, z3, z4⟩ := alloc2 w1 (.cells #[.pointer (some ⟨B, 0, none⟩)] 24) (.cells #[.pointer (some ⟨C, 0, none⟩)] 43)
  have hJ0 := J.below z1
  have hJl := J.lt
  have hJb := J.bs
  generalize (w1.alloc (.cells #[.pointer (some ⟨B, 0, none⟩)] 24)).alloc (.cells #[.pointer (some ⟨C, 0, none⟩)] 43) = V0 at *
  obtain ⟨b7, hb7⟩ : ∃ b7, b7 = w1.heap.size := ⟨_, rfl⟩
  rw [← hb7] at z2 z3 z4 ⊢
  obtain ⟨K, hK⟩ : ∃ K, K = W.heap.size := ⟨_, rfl⟩
  rw [← hK] at HS1 H3 H5 H6 ⊢
  have HBOX : Hid (∀ V, (∀ q, q < V0.heap.size → ¬ (JP.mk B n' 3 D C g gv cg cv base).T q → V.heap[q]? = V0.heap[q]?) → WkBox V ⟨B, n', 3, D, C, g, gv, cg, cv, base⟩ K b7 n' h0 h1 h2) := Lib.hid (fun V hV => by
    have hw1 := J.old.size
    have far : ∀ q, q < W1.heap.size ∨ base ≤ q → ¬ (JP.mk B n' 3 D C g gv cg cv base).T q := fun q hq e => by
      rcases e with e | e | e
      · have h := hJl q (.inr (.inl e)); have h1 : W1.heap.size ≤ q ∧ q < base := h; omega
      · have e : q = g := e
        have h := hJl q (.inr (.inr (.inr (.inl e)))); have h1 : W1.heap.size ≤ q ∧ q < base := h; omega
      · have e : q = gv := e
        have h := hJl q (.inr (.inr (.inr (.inr e)))); have h1 : W1.heap.size ≤ q ∧ q < base := h; omega
    have hJb' : base ≤ w1.heap.size := hJb
    have old : ∀ q, q < W1.heap.size → V.heap[q]? = W1.heap[q]? := fun q hq => (hV q (by omega) (far q (.inl hq))).trans (hJ0.old.block q hq)
    have e3 := (old K (by rw [HS1.out]; omega)).trans H3.out
    have e5 := (old (K + 1) (by rw [HS1.out]; omega)).trans H5.out
    have e6 := (old (K + 1 + 1) (by rw [HS1.out]; omega)).trans H6.out
    have e7 := (hV b7 (by omega) (far b7 (.inr (by omega)))).trans z3
    have e8 := (hV (b7 + 1) (by omega) (far (b7 + 1) (.inr (by omega)))).trans z4
    exact ⟨row_cell e3 rfl, row_cell e5 rfl, row_cell e5 rfl, row_cell e5 rfl, row_cell e6 rfl, row_free e6, row_cell e7 rfl, row_cell e8 rfl⟩)
  have HJ0 := Lib.hid hJ0
  have HZ2 := Lib.hid z2; have HKW := Lib.hid hK
  have HJL := Lib.hid hJl
  clear z1 z2 z3 z4 hJ0 hJl hJb J hb7 hK
  gi_loopg [9, 10] 5 (fun n1 x9 x10 wr => ∃ (k : Nat) (z : Int), x9 = .int .i64 (metS of k : Int) ∧ x10 = .int .i64 z ∧ z = (k : Int) - 1 ∧ k + n1 = 5 ∧ Below V0.heap.size V0 wr)
  case atStart => exact ⟨0, -1, rfl, rfl, by omega, by omega, Below.refl _ _⟩
  case round =>
    obtain ⟨k, z, rfl, rfl, hz, hkn, hbv⟩ := hrel
    obtain ⟨wx, rfl⟩ : ∃ wx : World, wx = wr := ⟨_, rfl⟩
    by_cases hlt : k < 5
    · obtain ⟨n'', rfl⟩ : ∃ n'', gk = n'' + 1 := ⟨gk - 1, by omega⟩
      have z3 : z ≤ 3 := by omega
      have w1 : IntKind.i64.wrap (z + 1) = z + 1 := IntWalk.i64_in _ (by omega)
      have hJ := HJ0.out.below hbv
      have CWa := Lib.hid (fun V (hb : Below wx.heap.size wx V) => walked_any (hJ.below hb).pool z false)
      have CWb := Lib.hid (fun V (hb : Below wx.heap.size wx V) => walked_any (hJ.below hb).pool z true)
      have KEEP : Hid (∀ A, Below wx.heap.size wx A → A.cell? ⟨b7, 0, none⟩ = some (.pointer (some ⟨B, 0, none⟩))) := Lib.hid (fun A hb => (HBOX.out A (fun q hq _ => (hbv.trans (hb.mono hbv.size)).block q hq)).c7)
      have HD := Lib.hid ((Below.refl wx.heap.size wx).drew)
      have s0 := KEEP.out wx.drew HD.out
      have HJ := Lib.hid hJ; have HBV := Lib.hid hbv; have HZ := Lib.hid hz
      clear hJ hbv hz
      gi_wp2
      refine wpIn_wide.2 ?_
      go_region_held3 (fun Wx => Wx.cell? ⟨b7, 0, none⟩ = some (.pointer (some ⟨B, 0, none⟩))) (first | with_reducible exact s0 | with_reducible exact KEEP.out _ HK.out) (first
        | (go_at_call 17; refine (CWa.out _ HD.out).mono ?_; rintro e za ⟨va, rfl, hba, hoa⟩
           have HK := Lib.hid (HD.out.trans (hba.mono HD.out.size)); have HOA := Lib.hid hoa
           clear CWa hba hoa)
        | (go_at_call 17; refine (CWb.out _ HK.out).mono ?_; rintro e zb ⟨vb, rfl, hbb, hob⟩
           have HKa := Lib.hid hbb
           have HK := Lib.hid (HK.out.trans (hbb.mono HK.out.size)); have HOB := Lib.hid hob
           clear CWb hbb hob))
      obtain ⟨La, hLa⟩ : ∃ La, La = allL 3 of z false := ⟨_, rfl⟩
      have hob := HOB.out
      have hoa := HOA.out
      rw [allL_rev, ← hLa] at hob
      rw [← hLa] at hoa
      obtain ⟨pa, ca, rfl, hxa⟩ := (own_sl hoa).below HKa.out
      obtain ⟨pb, cb, rfl, hxb⟩ := own_sl hob
      rw [List.length_reverse] at hxb ⊢
      have hJz := HJ.out.below HK.out
      have hbx := HBOX.out zb (fun q hq _ => (HBV.out.trans (HK.out.mono HBV.out.size)).block q hq)
      obtain ⟨c3, y0, y1, y2, c6, f6, c7, c8⟩ := hbx
      obtain ⟨l0, l1, l2⟩ := hJz.ls.cells
      have hlen : La.length ≤ 60 := by
        obtain ⟨F, hp, hr⟩ := hJz.pool
        have h1 := all_len hr z false
        have h2 := HNN.out
        rw [hLa]
        exact Nat.le_trans h1 h2.2
      have CSI : Hid (∀ u, SlF zb u La.length (natF La) → Calls Try.prog 26 #[.slice pa La.length ca, u] zb (TruePost zb)) := Lib.hid (fun u hu => sameInts_any ⟨pa, ca, rfl, hxa⟩ hu (by omega))
      have HXA : Hid (∀ j, j < La.length → ∃ g : Nat, pa = some ⟨g, 0, none⟩ ∧ g < zb.heap.size ∧ zb.cell? ⟨g, j, none⟩ = some (.int .i64 (natF La j))) := Lib.hid hxa
      have HXB : Hid (∀ j, j < La.length → ∃ g : Nat, pb = some ⟨g, 0, none⟩ ∧ g < zb.heap.size ∧ zb.cell? ⟨g, j, none⟩ = some (.int .i64 (natF La.reverse j))) := Lib.hid hxb
      have HLEN := Lib.hid hlen
      have HMET : Hid (metS of (k + 1) = metS of k + La.length) := Lib.hid (by rw [hLa, HZ.out]; rfl)
      have HMB : Hid (metS of k ≤ 60) := Lib.hid (by
        obtain ⟨F, hp, hr⟩ := hJz.pool
        have h1 := metS_all hr
        have h2 := HNN.out
        have h3 := metS_mono of (show k ≤ 5 by omega)
        exact Nat.le_trans (Nat.le_trans h3 h1) h2.2)
      have tl : ((La.length : Int) != (La.length : Int)) = false := by simp
      by_cases hz3 : 0 ≤ z ∧ z < 3
      · obtain ⟨i, hi⟩ : ∃ i : Nat, z = (i : Int) := ⟨z.toNat, by omega⟩
        have hi3 : i < 3 := by omega
        obtain ⟨u, u0, _, hu⟩ := hJz.ls.row (j := i) hi3
        have hLi : La = of i := by rw [hLa, hi]; exact allL_in of hi3
        have hu := slK_slF hu
        rw [← hLi] at hu
        have HU0 := Lib.hid hu
        obtain ⟨pu, cu, rfl, _⟩ := hu
        have HU : Hid (SlF zb (.slice pu La.length cu) La.length (natF La)) := HU0
        have HZI : Hid ((i : Int) = (k : Int) - 1) := Lib.hid (by rw [← hi]; exact HZ.out)
        rw [hi] at *
        have i0 : (0 : Int) ≤ i := by omega
        have i1 : (i : Int) < 3 := by omega
        clear hz3 hLi hob hoa hxa hxb hJz hlen hLa HU0 hi hi3
        gi_wp2_with (gi_at_call 26; refine (callsIn_wide.2 (CSI.out _ HU.out)).mono ?_; rintro e zc ⟨rfl, hbc⟩; have HBC := Lib.hid hbc; clear hbc)
        clear c3 y0 y1 y2 c6 f6 c7 c8 l0 l1 l2 tl
        have HKc := Lib.hid (HBV.out.trans ((HK.out.trans (HBC.out.mono HK.out.size)).mono HBV.out.size))
        gi_loopg [14] La.length (fun n1 x14 wr => ∃ j : Nat, x14 = .int .i64 (j : Int) ∧ j + n1 = La.length ∧ Below zc.heap.size zc wr)
        case atStart => exact ⟨0, rfl, by omega, Below.refl _ _⟩
        case round =>
          obtain ⟨j, rfl, hjn, hbw⟩ := hrel
          obtain ⟨wy, rfl⟩ : ∃ wy : World, wy = wr := ⟨_, rfl⟩
          by_cases hj : j < La.length
          · obtain ⟨m', rfl⟩ : ∃ m', gk = m' + 1 := ⟨gk - 1, by omega⟩
            obtain ⟨ga, rfl, hga, ya⟩ := HXA.out j hj
            obtain ⟨gb, rfl, hgb, yb⟩ := HXB.out (La.length - 1 - j) (by omega)
            rw [natF_rev hj] at yb
            have hbz := (HBC.out.trans (hbw.mono HBC.out.size))
            have xa := (hbz.cell (p := ⟨ga, j, none⟩) hga).trans ya
            have xb := (hbz.cell (p := ⟨gb, La.length - 1 - j, none⟩) hgb).trans yb
            generalize natF La j = y at xa xb
            have HBW := Lib.hid hbw
            have j0 : (0 : Int) ≤ j := by omega
            have j1 : (j : Int) < La.length := by omega
            have j2 : (0 : Int) ≤ ((La.length - 1 - j : Nat) : Int) := by omega
            have j3 : ((La.length - 1 - j : Nat) : Int) < La.length := by omega
            have q1 : IntKind.i64.wrap ((La.length : Int) - 1) = ((La.length - 1 : Nat) : Int) := by rw [IntWalk.i64_in _ (by have := HLEN.out; omega)]; omega
            have q2 : IntKind.i64.wrap (((La.length - 1 : Nat) : Int) - (j : Int)) = ((La.length - 1 - j : Nat) : Int) := by rw [IntWalk.i64_in _ (by have := HLEN.out; omega)]; omega
            have q3 : IntKind.i64.wrap ((j : Int) + 1) = (j : Int) + 1 := IntWalk.i64_in _ (by have := HLEN.out; omega)
            have ty : (y != y) = false := by simp
            generalize La.length - 1 - j = r at xb j2 j3 q2
            generalize La.length - 1 = r1 at q1 q2
            clear hbw ya yb hbz hga hgb
            gi_wp2
            refine wpIn_wide.2 ?_
            go_quiet (fail)
            have HBQ := Lib.hid (HBW.out.trans (drewB zc.heap.size nq wy))
            generalize wy.drewN nq = wz at HBQ ⊢
            clear xa xb HBW
            gi_wp2
            gi_roundg m'
            case measure => omega
            case rel => exact ⟨j + 1, by go_num, by omega, HBQ.out⟩
          · obtain rfl : j = La.length := by omega
            have HBW := Lib.hid (HKc.out.trans (hbw.mono HKc.out.size))
            have w3 : IntKind.i64.wrap ((metS of k : Int) + (La.length : Int)) = ((metS of (k + 1) : Nat) : Int) := by
              rw [HMET.out, IntWalk.i64_in _ (by have := HMB.out; have := HLEN.out; omega)]; omega
            clear hbw hj
            gi_wp2
            gi_roundg n''
            case measure => omega
            case rel => exact ⟨k + 1, (i : Int) + 1, by go_num, by go_num, by have := HZI.out; omega, by omega, HBW.out⟩
      · have hLi : La = [] := by rw [hLa]; exact allL_out of hz3
        have HU : Hid (SlF zb (.slice none 0 0) La.length (natF La)) := Lib.hid (by rw [hLi]; exact ⟨none, 0, rfl, fun j hj => by cases hj⟩)
        clear hob hoa hxa hxb hJz hlen hLa hLi
        rcases (show z < 0 ∨ 3 ≤ z by omega) with hz4 | hz4
        · clear hz3
          gi_wp2_with (gi_at_call 26; refine (callsIn_wide.2 (CSI.out _ HU.out)).mono ?_; rintro e zc ⟨rfl, hbc⟩; have HBC := Lib.hid hbc; clear hbc)
          clear c3 y0 y1 y2 c6 f6 c7 c8 l0 l1 l2 tl
          have HKc := Lib.hid (HBV.out.trans ((HK.out.trans (HBC.out.mono HK.out.size)).mono HBV.out.size))
          gi_loopg [14] La.length (fun n1 x14 wr => ∃ j : Nat, x14 = .int .i64 (j : Int) ∧ j + n1 = La.length ∧ Below zc.heap.size zc wr)
          case atStart => exact ⟨0, rfl, by omega, Below.refl _ _⟩
          case round =>
            obtain ⟨j, rfl, hjn, hbw⟩ := hrel
            obtain ⟨wy, rfl⟩ : ∃ wy : World, wy = wr := ⟨_, rfl⟩
            by_cases hj : j < La.length
            · obtain ⟨m', rfl⟩ : ∃ m', gk = m' + 1 := ⟨gk - 1, by omega⟩
              obtain ⟨ga, rfl, hga, ya⟩ := HXA.out j hj
              obtain ⟨gb, rfl, hgb, yb⟩ := HXB.out (La.length - 1 - j) (by omega)
              rw [natF_rev hj] at yb
              have hbz := (HBC.out.trans (hbw.mono HBC.out.size))
              have xa := (hbz.cell (p := ⟨ga, j, none⟩) hga).trans ya
              have xb := (hbz.cell (p := ⟨gb, La.length - 1 - j, none⟩) hgb).trans yb
              generalize natF La j = y at xa xb
              have HBW := Lib.hid hbw
              have j0 : (0 : Int) ≤ j := by omega
              have j1 : (j : Int) < La.length := by omega
              have j2 : (0 : Int) ≤ ((La.length - 1 - j : Nat) : Int) := by omega
              have j3 : ((La.length - 1 - j : Nat) : Int) < La.length := by omega
              have q1 : IntKind.i64.wrap ((La.length : Int) - 1) = ((La.length - 1 : Nat) : Int) := by rw [IntWalk.i64_in _ (by have := HLEN.out; omega)]; omega
              have q2 : IntKind.i64.wrap (((La.length - 1 : Nat) : Int) - (j : Int)) = ((La.length - 1 - j : Nat) : Int) := by rw [IntWalk.i64_in _ (by have := HLEN.out; omega)]; omega
              have q3 : IntKind.i64.wrap ((j : Int) + 1) = (j : Int) + 1 := IntWalk.i64_in _ (by have := HLEN.out; omega)
              have ty : (y != y) = false := by simp
              generalize La.length - 1 - j = r at xb j2 j3 q2
              generalize La.length - 1 = r1 at q1 q2
              clear hbw ya yb hbz hga hgb
              gi_wp2
              refine wpIn_wide.2 ?_
              go_quiet (fail)
              have HBQ := Lib.hid (HBW.out.trans (drewB zc.heap.size nq wy))
              generalize wy.drewN nq = wz at HBQ ⊢
              clear xa xb HBW
              gi_wp2
              gi_roundg m'
              case measure => omega
              case rel => exact ⟨j + 1, by go_num, by omega, HBQ.out⟩
            · obtain rfl : j = La.length := by omega
              have HBW := Lib.hid (HKc.out.trans (hbw.mono HKc.out.size))
              have w3 : IntKind.i64.wrap ((metS of k : Int) + (La.length : Int)) = ((metS of (k + 1) : Nat) : Int) := by
                rw [HMET.out, IntWalk.i64_in _ (by have := HMB.out; have := HLEN.out; omega)]; omega
              clear hbw hj
              gi_wp2
              gi_roundg n''
              case measure => omega
              case rel => exact ⟨k + 1, z + 1, by go_num, by go_num, by have := HZ.out; omega, by omega, HBW.out⟩
        · clear hz3
          have hz5 : 0 ≤ z := by omega
          gi_wp2_with (gi_at_call 26; refine (callsIn_wide.2 (CSI.out _ HU.out)).mono ?_; rintro e zc ⟨rfl, hbc⟩; have HBC := Lib.hid hbc; clear hbc)
          clear c3 y0 y1 y2 c6 f6 c7 c8 l0 l1 l2 tl
          have HKc := Lib.hid (HBV.out.trans ((HK.out.trans (HBC.out.mono HK.out.size)).mono HBV.out.size))
          gi_loopg [14] La.length (fun n1 x14 wr => ∃ j : Nat, x14 = .int .i64 (j : Int) ∧ j + n1 = La.length ∧ Below zc.heap.size zc wr)
          case atStart => exact ⟨0, rfl, by omega, Below.refl _ _⟩
          case round =>
            obtain ⟨j, rfl, hjn, hbw⟩ := hrel
            obtain ⟨wy, rfl⟩ : ∃ wy : World, wy = wr := ⟨_, rfl⟩
            by_cases hj : j < La.length
            · obtain ⟨m', rfl⟩ : ∃ m', gk = m' + 1 := ⟨gk - 1, by omega⟩
              obtain ⟨ga, rfl, hga, ya⟩ := HXA.out j hj
              obtain ⟨gb, rfl, hgb, yb⟩ := HXB.out (La.length - 1 - j) (by omega)
              rw [natF_rev hj] at yb
              have hbz := (HBC.out.trans (hbw.mono HBC.out.size))
              have xa := (hbz.cell (p := ⟨ga, j, none⟩) hga).trans ya
              have xb := (hbz.cell (p := ⟨gb, La.length - 1 - j, none⟩) hgb).trans yb
              generalize natF La j = y at xa xb
              have HBW := Lib.hid hbw
              have j0 : (0 : Int) ≤ j := by omega
              have j1 : (j : Int) < La.length := by omega
              have j2 : (0 : Int) ≤ ((La.length - 1 - j : Nat) : Int) := by omega
              have j3 : ((La.length - 1 - j : Nat) : Int) < La.length := by omega
              have q1 : IntKind.i64.wrap ((La.length : Int) - 1) = ((La.length - 1 : Nat) : Int) := by rw [IntWalk.i64_in _ (by have := HLEN.out; omega)]; omega
              have q2 : IntKind.i64.wrap (((La.length - 1 : Nat) : Int) - (j : Int)) = ((La.length - 1 - j : Nat) : Int) := by rw [IntWalk.i64_in _ (by have := HLEN.out; omega)]; omega
              have q3 : IntKind.i64.wrap ((j : Int) + 1) = (j : Int) + 1 := IntWalk.i64_in _ (by have := HLEN.out; omega)
              have ty : (y != y) = false := by simp
              generalize La.length - 1 - j = r at xb j2 j3 q2
              generalize La.length - 1 = r1 at q1 q2
              clear hbw ya yb hbz hga hgb
              gi_wp2
              refine wpIn_wide.2 ?_
              go_quiet (fail)
              have HBQ := Lib.hid (HBW.out.trans (drewB zc.heap.size nq wy))
              generalize wy.drewN nq = wz at HBQ ⊢
              clear xa xb HBW
              gi_wp2
              gi_roundg m'
              case measure => omega
              case rel => exact ⟨j + 1, by go_num, by omega, HBQ.out⟩
            · obtain rfl : j = La.length := by omega
              have HBW := Lib.hid (HKc.out.trans (hbw.mono HKc.out.size))
              have w3 : IntKind.i64.wrap ((metS of k : Int) + (La.length : Int)) = ((metS of (k + 1) : Nat) : Int) := by
                rw [HMET.out, IntWalk.i64_in _ (by have := HMB.out; have := HLEN.out; omega)]; omega
              clear hbw hj
              gi_wp2
              gi_roundg n''
              case measure => omega
              case rel => exact ⟨k + 1, z + 1, by go_num, by go_num, by have := HZ.out; omega, by omega, HBW.out⟩
    · have hk5 : k = 5 := by omega
      subst hk5
      obtain rfl : gk = 0 := by omega
      have hz3 : ¬ z ≤ 3 := by omega
      have hm5 : metS of 5 ≤ n' := by obtain ⟨F, hp, hr⟩ := HJ0.out.pool; exact metS_all hr
      have HM5 := Lib.hid hm5
      have HBV := Lib.hid hbv
      obtain ⟨l1, hl1⟩ : ∃ l1 : Nat, l1 = h1 % 3 := ⟨_, rfl⟩
      obtain ⟨to, hto⟩ : ∃ to : Nat, to = h2 % 3 := ⟨_, rfl⟩
      have e1 : (wrap64 (h1 : Int)).tmod 3 = (l1 : Int) := by rw [IntWalk.wrap64_in _ (by have := HH1.out; omega), hl1]; rfl
      have e2 : (wrap64 (h2 : Int)).tmod 3 = (to : Int) := by rw [IntWalk.wrap64_in _ (by have := HH2.out; omega), hto]; rfl
      have e1' : ((h1 : Int)).tmod 3 = (l1 : Int) := by rw [hl1]; rfl
      have e2' : ((h2 : Int)).tmod 3 = (to : Int) := by rw [hto]; rfl
      have HL1 : Hid (l1 < 3) := Lib.hid (by rw [hl1]; exact Nat.mod_lt _ (by decide))
      have HTO : Hid (to < 3) := Lib.hid (by rw [hto]; exact Nat.mod_lt _ (by decide))
      obtain ⟨c3, y0, y1, y2, c6, f6, c7, c8⟩ := HBOX.out wx (fun q hq _ => hbv.block q hq)
      obtain ⟨back, hback⟩ : ∃ back : Bool, back = decide ((128 : Int) ≤ (h0 : Int)) := ⟨_, rfl⟩
      have hb2 : decide ((128 : Int) ≤ (h0 : Int)) = back := hback.symm
      have HJ := Lib.hid (HJ0.out.below hbv)
      have hal := (Below.refl wx.heap.size wx).alloc (Nat.le_refl _) (.cells #[.int .i64 0] 3)
      obtain ⟨_, _, y1', y2', _, _, _, _⟩ := HBOX.out (wx.alloc (.cells #[.int .i64 0] 3)) (fun q hq _ => (hbv.trans (hal.mono hbv.size)).block q hq)
      clear hbv hlt hl1 hto hm5 hal
      gi_wp2
      refine wpIn_wide.2 ?_
      refine region_mid (fun A a w' => (∃ f : Nat → Value, a = ((puts A 110 8 f).put (some 15) (.int .i64 (l1 : Int))).put (some 16) (.pointer (some ⟨wx.heap.size, 0, none⟩))) ∧ w' = (wx.alloc (.cells #[.int .i64 (to : Int)] 3)).drew) ?_ ?_
      · go_region
        all_goals
          refine ⟨rfl, ⟨fun i => match i with | 0 => ?r0 | 1 => ?r1 | 2 => ?r2 | 3 => ?r3 | 4 => ?r4 | 5 => ?r5 | 6 => ?r6 | _ => ?r7, ?e⟩, rfl⟩
          case e =>
            rw [puts_8]
            simp only [Act.put, List.setIfInBounds_toArray, List.set_cons_zero, List.set_cons_succ]
            rfl
      · rintro a w' ⟨⟨f, rfl⟩, rfl⟩
        rw [puts_8]
        generalize f 0 = r0; generalize f 1 = r1; generalize f 2 = r2; generalize f 3 = r3; generalize f 4 = r4; generalize f 5 = r5; generalize f 6 = r6; generalize f 7 = r7
        simp only [Act.put, List.setIfInBounds_toArray, List.set_cons_zero, List.set_cons_succ]
        have hal := (Below.refl wx.heap.size wx).alloc (Nat.le_refl _) (.cells #[.int .i64 (to : Int)] 3)
        have hV2 : Below V0.heap.size V0 (wx.alloc (.cells #[.int .i64 (to : Int)] 3)).drew := HBV.out.trans ((hal.drew).mono HBV.out.size)
        have HJ2 := Lib.hid ((HJ.out.below hal).below ((Below.refl _ _).drew))
        have H16 : Hid ((wx.alloc (.cells #[.int .i64 (to : Int)] 3)).drew.heap[wx.heap.size]? = some (.cells #[.int .i64 (to : Int)] 3 (0, 0))) := Lib.hid (heap_alloc_new wx _)
        have H16L : Hid (V0.heap.size ≤ wx.heap.size ∧ wx.heap.size < (wx.alloc (.cells #[.int .i64 (to : Int)] 3)).drew.heap.size) := Lib.hid ⟨HBV.out.size, by show _ < (wx.alloc _).heap.size; rw [size1]; exact Nat.lt_succ_self _⟩
        have HV2 := Lib.hid hV2
        clear hV2 hal HJ HBV c3 y0 y1 y2 c6 f6 c7 c8 y1' y2' e1 e2 e1' e2' hback
        generalize (wx.alloc (.cells #[.int .i64 (to : Int)] 3)).drew = V2 at HJ2 H16 H16L HV2 ⊢
        generalize wx.heap.size = b16 at H16 H16L ⊢
        obtain ⟨a1, a2, a3, a4⟩ := alloc2 V2 (.cells #[.bool back] 4) (.cells #[] 3)
        have h24 := World.ownsRow_made (V2.alloc (.cells #[.bool back] 4)) (e := 3) (size := 1) (base := V2.heap.size + 1) #[] 0 (by rw [size1]; exact Nat.le_refl _) (Nat.zero_le _) rfl
        rw [size1] at h24
        have h24 := Lib.hid h24
        have HV4 := Lib.hid (HV2.out.trans (a1.mono HV2.out.size))
        have HJ4 := Lib.hid (HJ2.out.below a1)
        obtain ⟨c3, y0, y1, y2, c6, f6, c7, c8⟩ := HBOX.out V2 (fun q hq _ => HV2.out.block q hq)
        obtain ⟨d3, z0, z1, z2, d6, g6, d7, d8⟩ := HBOX.out _ (fun q hq _ => HV4.out.block q hq)
        obtain ⟨l0, l1', l2⟩ := HJ4.out.ls.cells
        obtain ⟨u, u0, _, hu⟩ := HJ4.out.ls.row (j := l1) HL1.out
        have i0 : (0 : Int) ≤ l1 := by omega
        have i1 : (l1 : Int) < 3 := by have := HL1.out; omega
        have HA1 := Lib.hid a1; have HA2 := Lib.hid a2; have HA3 := Lib.hid a3; have HU := Lib.hid hu
        clear a1 a2 a3 a4 hu
        obtain ⟨L0, hL0⟩ : ∃ L0, L0 = of l1 := ⟨_, rfl⟩
        have HL0 := Lib.hid hL0
        have hl60 : L0.length ≤ 60 := by
          obtain ⟨F, hp, hr⟩ := HJ4.out.pool
          have h1 := List.Nodup.length_le_of_subset (hr.nodup l1 HL1.out) (l₂ := List.range n') (fun x hx => List.mem_range.2 (hr.lt l1 HL1.out x hx))
          rw [List.length_range] at h1
          rw [hL0]
          exact Nat.le_trans h1 HNN.out.2
        have HL60 := Lib.hid hl60
        have HBS : Hid (V2.heap.size + 1 ≤ ((V2.alloc (.cells #[.bool back] 4)).alloc (.cells #[] 3)).heap.size) := Lib.hid (by rw [size1, size1]; exact Nat.le_succ _)
        have HNM : Hid (0 + (of l1).length ≤ 100000) := Lib.hid (by rw [← hL0, Nat.zero_add]; exact Nat.le_trans hl60 (by decide))
        obtain ⟨pu, cu, hpu, _⟩ := slK_slF HU.out
        have HNW := Lib.hid (slK_news HU.out)
        rw [hpu] at u0 HNW
        clear hl60 hL0 hpu
        gi_wp2_with (gi_at_builtin; apply unhold)
        refine ⟨?_⟩
        refine listIn_app rfl (.tmp 121) (.tmp 128) rfl (.slice (some ⟨V2.heap.size + 1, 0, none⟩) 0 0) 0 [] rfl (base := V2.heap.size + 1) h24.out _ (of l1).length (natF (of l1)) rfl HNW.out HBS.out HNM.out ?_
        intro v5 w5 hown5 hb5
        have HOWN5 := Lib.hid hown5; have HB5 := Lib.hid hb5
        clear hown5 hb5 u0 l0 l1' l2
        have hV5 : Below V0.heap.size V0 w5 := HV4.out.trans (HB5.out.mono (Nat.le_succ_of_le HV2.out.size))
        have hb25 := HA1.out.trans (HB5.out.mono (Nat.le_succ _))
        have HV5L := Lib.hid (fun q (e : v5.ownBlock = some q) => (HOWN5.out.lt q e).2)
        have HV5G := Lib.hid (fun q (e : v5.ownBlock = some q) => (HOWN5.out.lt q e).1)
        have hal6 := (Below.refl w5.heap.size w5).alloc (Nat.le_refl _) (.cells #[.slice none 0 0] 29)
        have hs2 : V2.heap.size < w5.heap.size := Nat.lt_of_lt_of_le (by rw [HA2.out]; exact Nat.lt_succ_of_lt (Nat.lt_succ_self _)) HB5.out.size
        have hV6 := hV5.trans (hal6.mono hV5.size)
        have h17 : (w5.alloc (.cells #[.slice none 0 0] 29)).heap[V2.heap.size]? = some (.cells #[.bool back] 4 (0, 0)) := (hal6.block V2.heap.size hs2).trans ((HB5.out.block V2.heap.size (Nat.lt_succ_self _)).trans HA3.out)
        have e17 : (w5.alloc (.cells #[.slice none 0 0] 29)).cell? ⟨V2.heap.size, 0, none⟩ = some (.bool back) := row_cell h17 rfl
        have h16 : (w5.alloc (.cells #[.slice none 0 0] 29)).heap[b16]? = some (.cells #[.int .i64 (to : Int)] 3 (0, 0)) := (hal6.block b16 (Nat.lt_trans H16L.out.2 hs2)).trans ((HB5.out.block b16 (Nat.lt_succ_of_lt H16L.out.2)).trans ((HA1.out.block b16 H16L.out.2).trans H16.out))
        have hwant : (w5.alloc (.cells #[.slice none 0 0] 29)).ownsRow (V2.heap.size + 1) 3 1 v5 (0 + (of l1).length) ([] ++ IntC (of l1).length (natF (of l1))) := HOWN5.out.alloc _
        have hJX := JX.start (u := v5) HJ2.out hb25 (fun q e => ⟨Nat.le_of_succ_le (HV5G.out q e), HV5L.out q e⟩) (.cells #[.slice none 0 0] 29)
        have hbx : Boxed (w5.alloc (.cells #[.slice none 0 0] 29)) w5.heap.size 29 (.slice none 0 0) := Boxed.new _ _ _
        obtain ⟨d3, z0, z1, z2, d6, g6, d7, d8⟩ := HBOX.out (w5.alloc (.cells #[.slice none 0 0] 29)) (fun q hq _ => hV6.block q hq)
        have hs6 : (w5.alloc (.cells #[.slice none 0 0] 29)).heap.size = w5.heap.size + 1 := size1 _ _
        have H17 := Lib.hid h17; have H16' := Lib.hid h16; have HWANT := Lib.hid hwant; have HJX := Lib.hid hJX; have HBX := Lib.hid hbx; have HV6 := Lib.hid hV6; have HS2 := Lib.hid hs2; have HV5 := Lib.hid hV5
        clear hV5 hb25 hal6 hs2 hV6 h17 h16 hwant hJX hbx c3 y0 y1 y2 c6 f6 c7 c8 HOWN5 HB5 HA1 HA2 HA3 H16 HJ4 HV4 HJ2 HNW HU HBS HNM h24
        clear z0 z1 z2
        gi_wp2_with (gi_at_call 27; refine (callsIn_wide.2 (All_any _ _ _ _)).mono ?_; rintro e w7 ⟨rfl, hw7⟩)
        clear e17 d3 d6 g6 d7 d8
        obtain ⟨b17, hb17⟩ : ∃ b17, b17 = V2.heap.size := ⟨_, rfl⟩
        obtain ⟨b19, hb19⟩ : ∃ b19, b19 = w5.heap.size := ⟨_, rfl⟩
        rw [← hb19] at hs6 HBX HJX HS2 HV5L ⊢
        rw [← hb17] at H17 HWANT HS2 H16L HV5G ⊢
        have HB17 : Hid (V0.heap.size ≤ b17) := Lib.hid (by rw [hb17]; exact HV2.out.size)
        have HB19 : Hid (V0.heap.size ≤ b19) := Lib.hid (by rw [hb19]; exact HV5.out.size)
        obtain ⟨w6, hw6⟩ : ∃ w6 : World, w6 = w5.alloc (.cells #[.slice none 0 0] 29) := ⟨_, rfl⟩
        rw [← hw6] at hw7 hs6 H17 H16' HWANT HJX HBX HV6 ⊢
        obtain ⟨y1, y2, y3, y4, y5⟩ := alloc3 w6 (.cells #[.pointer (some ⟨B, 0, none⟩)] 24) (.cells #[.int .i64 (l1 : Int)] 3) (.cells #[.bool back] 4)
        rw [← hw7] at y1 y2 y3 y4 y5 ⊢
        rw [hs6] at y2 y3 y4 y5
        clear hw7 hw6 hb17 hb19 HV2 HV5
        have hB7 : Below V0.heap.size V0 w7 := HV6.out.trans (y1.mono HV6.out.size)
        have lt6 : ∀ q, q < b19 → q < w6.heap.size := fun q hq => by rw [hs6]; exact Nat.lt_succ_of_lt hq
        have h16 := (y1.block b16 (lt6 _ (Nat.lt_trans H16L.out.2 HS2.out))).trans H16'.out
        have h17 := (y1.block b17 (lt6 _ HS2.out)).trans H17.out
        have hJ7 := HJX.out.below y1
        have hbx7 : Boxed w7 b19 29 (.slice none 0 0) := (y1.block b19 (by rw [hs6]; exact Nat.lt_succ_self _)).trans HBX.out
        have hwant : w7.ownsRow (b17 + 1) 3 1 v5 (0 + (of l1).length) ([] ++ IntC (of l1).length (natF (of l1))) := row_keep HWANT.out fun q e => y1.block q (HWANT.out.lt q e).2
        have far : ∀ q, V0.heap.size ≤ q → ¬ (JP.mk B n' 3 D C g gv cg cv base).T q := fun q hq => HJ0.out.notT (Nat.le_trans HJ0.out.bs hq)
        have hw19 : ∀ q, v5.ownBlock = some q → q ≠ b19 := fun q e => Nat.ne_of_lt (HV5L.out q e)
        have HB : Hid (∀ V, BelowS (WwS (JP.mk B n' 3 D C g gv cg cv base) b19) w7.heap.size w7 V → WkBox V ⟨B, n', 3, D, C, g, gv, cg, cv, base⟩ K b7 n' h0 h1 h2 ∧ V.cell? ⟨b16, 0, none⟩ = some (.int .i64 (to : Int)) ∧ V.cell? ⟨b17, 0, none⟩ = some (.bool back) ∧ V.ownsRow (b17 + 1) 3 1 v5 (0 + (of l1).length) ([] ++ IntC (of l1).length (natF (of l1))) ∧
            V.heap[b19 + 1]? = some (.cells #[.pointer (some ⟨B, 0, none⟩)] 24 (0, 0)) ∧ V.heap[b19 + 1 + 1]? = some (.cells #[.int .i64 (l1 : Int)] 3 (0, 0)) ∧ V.heap[b19 + 1 + 1 + 1]? = some (.cells #[.bool back] 4 (0, 0))) := Lib.hid (fun V hV => by
          have keep : ∀ q, V0.heap.size ≤ q → q < w7.heap.size → q ≠ b19 → V.heap[q]? = w7.heap[q]? := fun q h1 h2 h3 => hV.block q h2 (fun e => e.elim (far q h1) h3)
          have l19 := HB19.out
          have l17 := HB17.out
          refine ⟨HBOX.out V (fun q hq hn => (hV.block q (Nat.lt_of_lt_of_le hq hB7.size) (fun e => e.elim hn (fun e => Nat.lt_irrefl _ (Nat.lt_of_lt_of_le (e ▸ hq) l19)))).trans (hB7.block q hq)),
            row_cell ((keep b16 H16L.out.1 (by rw [y2]; have := H16L.out.2; have := HS2.out; omega) (by have := H16L.out.2; have := HS2.out; omega)).trans h16) rfl, row_cell ((keep b17 l17 (by rw [y2]; have := HS2.out; omega) (by have := HS2.out; omega)).trans h17) rfl,
            row_keep hwant (fun q e => keep q (by have := (hwant.lt q e).1; omega) (hwant.lt q e).2 (hw19 q e)), (keep _ (by omega) (by rw [y2]; omega) (by omega)).trans y3, (keep _ (by omega) (by rw [y2]; omega) (by omega)).trans y4, (keep _ (by omega) (by rw [y2]; omega) (by omega)).trans y5⟩)
        have hL19 : base ≤ b19 := Nat.le_trans HJ0.out.bs HB19.out
        have hL7 : base ≤ w7.heap.size := Nat.le_trans HJ0.out.bs hB7.size
        have hD7 : W1.heap.size ≤ w7.heap.size := hJ7.j.old.size
        have hpool := hJ7.j.pool
        have hi0 : WwI W1 (JP.mk B n' 3 D C g gv cg cv base) w7 v5 b19 l1 back v (ordL of l1 back) [] w7 := ⟨BelowS.refl _ _ _, .slice none 0 0, hbx7, World.ownsRow_nil _ _ _ _, v, of, [], hJ7, rfl, fun _ _ => rfl⟩
        obtain ⟨i9, hi9, hz90, hz91, hz92⟩ := info_partsB info_int
        have HI := Lib.hid hi9; have HZ0 := Lib.hid hz90; have HZ1 := Lib.hid hz91; have HZ92 := Lib.hid hz92
        have hol : (ordL of l1 back).length ≤ n' := by obtain ⟨F, hp, hr⟩ := hpool; exact ord_len hr HL1.out back
        have hlen9 : ∀ pre x rest, ordL of l1 back = pre ++ x :: rest → pre.length < n' := fun pre x rest e => by rw [e] at hol; simp at hol; omega
        have HOL := Lib.hid hol
        clear hol
        have HLEN9 := Lib.hid hlen9
        have HB7 := Lib.hid hB7; have HL19 := Lib.hid hL19; have HL7 := Lib.hid hL7; have HY2 := Lib.hid y2
        clear h16 h17 hwant hw19 y3 y4 y5 y1 lt6 H16' H17 HWANT HJX HBX hbx7 hi9 hz90 hz91 hz92 hB7 hL19 hL7 y2 hlen9 h24 z0 z1 z2 hJ7
        refine range_walk rfl (by decide) (gf := 58) (lb := #[.pointer (some ⟨b19 + 1, 0, none⟩), .pointer (some ⟨b19 + 1 + 1, 0, none⟩), .pointer (some ⟨b19 + 1 + 1 + 1, 0, none⟩)]) rfl trivial (enters_of Try.func58 (by kernel_rfl) rfl)
          (all_rel _ (b19 + 1) B n' 3 D v of l1 HL1.out back w7 hpool (fun W hW => hpool.below hW)) (Below.refl _ _) (WwI W1 (JP.mk B n' 3 D C g gv cg cv base) w7 v5 b19 l1 back v (ordL of l1 back)) (wwI_own hD7) (fun pre W h => ww_reads h (fun V hV => ⟨(HB.out V hV).2.2.2.2.1, (HB.out V hV).2.2.2.2.2.1, (HB.out V hV).2.2.2.2.2.2⟩)) hi0 ?assign ?body ?done
        case assign =>
          intro ly x W2 K2 hK2
          have HK2 := Lib.hid hK2; clear hK2
          simp only [List.setIfInBounds_toArray, List.set_cons_zero, List.set_cons_succ]
          gi_wp2
          exact HK2.out
        case body =>
          intro ly pre x W2 hly hI hN
          obtain ⟨rest, hrest⟩ := hN
          obtain ⟨⟨c3, y0, y1, y2, c6, f6, c7, c8⟩, c16, c17, _⟩ := HB.out W2 hI.1
          obtain ⟨hbs, r, hbx, hown, v', of', A, hJX, hord, hval⟩ := hI
          obtain ⟨pr, cr, rfl⟩ := row_form hown
          have hwf2 : ∀ f, (Fence.wide.inRound ly).fn f := fun _ => trivial
          have hwd2 : (Fence.wide.inRound ly).depth.isSome = false := rfl
          rw [hrest, List.drop_left] at hord hval
          have hvx := hval x (List.mem_cons_self ..)
          have CG := jst_get hJX.j HL1.out hord
          rw [hvx] at CG; unfold TwoI at CG
          have CG := Lib.hid CG
          have hpn := HLEN9.out _ _ _ hrest
          have i1 : ¬ (n' : Int) < (pre.length : Int) := by omega
          have i2 : (v x != v x) = false := by simp
          have c19 := hbx.cell
          have f19 := hbx.frozen
          have HBXD := Lib.hid hbx; have HOWN := Lib.hid hown; have HJX := Lib.hid hJX; have HORD := Lib.hid hord; have HVAL := Lib.hid hval; have HREST := Lib.hid hrest; have HBS := Lib.hid hbs; have HPN := Lib.hid hpn; have HVX := Lib.hid hvx
          clear hbx hown hJX hord hval hrest hbs hpn hvx
          unfold inRoundA
          simp only [List.setIfInBounds_toArray, List.set_cons_zero, List.set_cons_succ]
          gi_wp2_with (first
            | (gi_at_call 28; refine CallsIn.inRound ly ((callsIn_wide.2 CG.out).mono ?_); rintro e w1 ⟨rfl, rfl⟩)
            | (gi_at_builtin; apply unhold))
          refine ⟨?_⟩
          refine wpListIn_append_where _ rfl _ _ 29 rfl w7.heap.size 3 i9 (.int .i64 0) 1 8 Try.underlying29 HI.out HZ0.out HZ1.out HZ92.out rfl (by decide) _ _ _ rfl (HOWN.out.alloc _) ⟨w1.heap.size, 0, none⟩ 1 1 [.int .i64 (x : Int)] rfl rfl (cellB_one _ _ _ _ rfl) (int_onecell _) (by have := HPN.out; have := HNN.out.2; unfold maxLen; omega) (by have := HPN.out; have := HNN.out.2; omega) (by rw [size1]; exact Nat.le_succ_of_le HBS.out.size) ?_
          intro v4 w4 hown4 hgrow4 hwh4
          obtain ⟨g4, cap4, rfl⟩ := ownsRow_succ hown4
          obtain ⟨n1, n2, n3, n4, n5, n6⟩ := ww_app HJX.out HL19.out HL7.out HBS.out HBXD.out HOWN.out hown4 hgrow4 hwh4
          rw [← natC_snoc] at n3
          have j8 := n1.cell
          have f8 := n1.frozen
          clear hown4 hgrow4 hwh4 n1 c3 y0 y1 y2 c6 f6 c7 c8 c16 c17 c19 f19
          obtain ⟨⟨c3, y0, y1, y2, c6, f6, c7, c8⟩, c16, c17, _⟩ := HB.out _ n5
          have N2 := Lib.hid n2; have N3 := Lib.hid n3; have N4 := Lib.hid n4; have N5 := Lib.hid n5; have N6 := Lib.hid n6
          clear n2 n3 n4 n5 n6 HJX HBS HBXD HOWN CG
          have farT : ∀ q, w7.heap.size ≤ q → ¬ (JP.mk B n' 3 D C g gv cg cv base).T q := fun q hq => N6.out.j.notT (Nat.le_trans HL7.out hq)
          have FAR := Lib.hid farT
          clear farT
          rcases (show h0 % 3 = 0 ∨ h0 % 3 = 1 ∨ h0 % 3 = 2 by omega) with hk0 | hk0 | hk0
          · have e3 : (h0 : Int).tmod 3 = 0 := by have : ((h0 % 3 : Nat) : Int) = (h0 : Int).tmod 3 := rfl; rw [← this, hk0]; rfl
            clear hk0
            gi_wp2
            exact ⟨N4.out.from _, trivial, ww_next HL19.out HL7.out N5.out N2.out N3.out (BelowS.refl _ _ _) N6.out (A := A ++ [x]) (by rw [HORD.out]; simp) (fun y hy => HVAL.out y (List.mem_cons_of_mem _ hy)) HREST.out⟩
          · have e3 : (h0 : Int).tmod 3 = 1 := by have : ((h0 % 3 : Nat) : Int) = (h0 : Int).tmod 3 := rfl; rw [← this, hk0]; rfl
            clear hk0
            obtain ⟨v8, of8, hord8, hval8, C1, C2⟩ := jx_take N6.out HL1.out HORD.out
            rw [HVX.out] at C1 C2
            unfold TwoI at C1 C2
            have C1 := Lib.hid C1; have C2 := Lib.hid C2; have HO8 := Lib.hid hord8; have HV8 := Lib.hid hval8
            clear hord8 hval8
            gi_wp2_with (first
              | (gi_at_call 29; refine CallsIn.inRound ly ((callsIn_wide.2 C1.out).mono ?_); rintro e w8 ⟨rfl, hm8⟩; clear c3 y0 y1 y2 c6 f6 c7 c8 c16 c17 j8 f8; obtain ⟨⟨c3, y0, y1, y2, c6, f6, c7, c8⟩, c16, c17, _⟩ := HB.out _ (ww_more N5.out (Nat.le_refl _) (belowT1 hm8.2)); have HM8 := Lib.hid hm8; clear hm8)
              | (gi_at_call 30; refine CallsIn.inRound ly ((callsIn_wide.2 (C2.out _ HM8.out)).mono ?_); rintro e w9 ⟨rfl, hj9, hb9⟩; clear c3 y0 y1 y2 c6 f6 c7 c8 c16 c17; have HJ9 := Lib.hid hj9; have HB9 := Lib.hid hb9; clear hj9 hb9))
            exact ⟨(N4.out.from _).trans (kf_of_T HB9.out FAR.out), trivial, ww_next HL19.out HL7.out N5.out N2.out N3.out HB9.out HJ9.out HO8.out (fun y hy => (HV8.out y hy).trans (HVAL.out y (List.mem_cons_of_mem _ hy))) HREST.out⟩
          · have e3 : (h0 : Int).tmod 3 = 2 := by have : ((h0 % 3 : Nat) : Int) = (h0 : Int).tmod 3 := rfl; rw [← this, hk0]; rfl
            clear hk0
            gi_wp2
            have hdr : Below (w4.setCell ⟨b19, 0, none⟩ (.slice (some ⟨g4, 0, none⟩) (pre.length + 1) cap4)).heap.size (w4.setCell ⟨b19, 0, none⟩ (.slice (some ⟨g4, 0, none⟩) (pre.length + 1) cap4)) (w4.setCell ⟨b19, 0, none⟩ (.slice (some ⟨g4, 0, none⟩) (pre.length + 1) cap4)).drew := (Below.refl _ _).drew
            have N5' := Lib.hid (ww_more N5.out (Nat.le_refl _) (BelowS.of hdr))
            obtain ⟨of8, A8, hord8, C1, C2⟩ := jx_move (N6.out.below hdr) HL1.out HTO.out HORD.out
            have HO8 := Lib.hid hord8; have HDR := Lib.hid hdr
            clear hord8 hdr c3 y0 y1 y2 c6 f6 c7 c8 c16 c17 j8 f8 e3
            refine move_region (Zf := fun W => JX W1 (JP.mk B n' 3 D C g gv cg cv base) (OwnX v5 b19 (.slice (some ⟨g4, 0, none⟩) (pre.length + 1) cap4)) W v' of8) (of' := of8) (v := v') (P := JP.mk B n' 3 D C g gv cg cv base) (x := (x : Int)) (to := (to : Int)) (back := back) (b7 := b7) (b8 := b7 + 1) (b16 := b16) (b17 := b17) rfl rfl rfl rfl rfl rfl ?cell C1 C2 ?_
            case cell =>
              intro V hV
              obtain ⟨⟨_, _, _, _, _, _, c7, c8⟩, c16, c17, _⟩ := HB.out V (ww_more N5'.out (Nat.le_refl _) hV)
              exact ⟨c7, c8, c16, c17⟩
            clear C1 C2
            intro w9 hj9 hb9
            have HJ9 := Lib.hid hj9; have HB9 := Lib.hid hb9
            clear hj9 hb9
            rw [puts_13]
            simp only [mvVal, Act.put, List.setIfInBounds_toArray, List.set_cons_zero, List.set_cons_succ]
            gi_wp2
            have HB9' := (BelowS.of HDR.out).trans (HB9.out.less HDR.out.size)
            exact ⟨(N4.out.from _).trans (kf_of_T HB9' FAR.out), trivial, ww_next HL19.out HL7.out N5.out N2.out N3.out HB9' HJ9.out HO8.out (fun y hy => HVAL.out y (List.mem_cons_of_mem _ hy)) HREST.out⟩
        case done =>
          intro D' ys W2 hD' hys hI hmark
          have hys' : ys = ordL of l1 back := hys
          subst hys'
          obtain ⟨⟨c3, y0, y1, y2, c6, f6, c7, c8⟩, c16, c17, hwant, _⟩ := HB.out W2 hI.1
          obtain ⟨hbs, r, hbx, hown, v', of', A, hJX, hord, hval⟩ := hI
          simp only [Nat.zero_add, List.nil_append] at hwant
          have hso := own_sl hown
          obtain ⟨pr, cr, rfl⟩ := row_form hown
          have c19 := hbx.cell
          have HRG := Lib.hid (fun q (e : (Value.slice pr (ordL of l1 back).length cr).ownBlock = some q) => Nat.le_trans (by rw [HY2.out]; omega : b19 + 1 ≤ w7.heap.size) (hown.lt q e).1)
          have HDX : Hid (b19 + 1 ≤ D') := Lib.hid (Nat.le_trans (by rw [HY2.out]; omega) hD')
          have HM := Lib.hid hmark; have HJX := Lib.hid hJX; have HSO := Lib.hid hso; have HW := Lib.hid hwant
          clear y0 y1 y2 c16 hbs hbx hown hJX hord hval hmark hso hwant hys hi0
          have HDD : Hid (W.heap.size ≤ D') := Lib.hid (Nat.le_trans HB1.out.size (Nat.le_trans hD7 hD'))
          clear hD' hD7
          cases back with
          | false =>
            have HSW : Hid (SlF W2 v5 (ordL of l1 false).length (natF (ordL of l1 false))) := Lib.hid (own_sl' HW.out)
            have HJE := Lib.hid HJX.out.j
            have HWX := Lib.hid (HB1.out.trans (HJE.out.old.mono HB1.out.size))
            have HME := Lib.hid HM.out
            gi_wp2
            have HDa := Lib.hid ((Below.refl W2.heap.size W2).drew)
            have KEEP : Hid (∀ A, Below W2.heap.size W2 A → A.cell? ⟨b19, 0, none⟩ = some (.slice pr (ordL of l1 false).length cr) ∧ A.cell? ⟨b7, 0, none⟩ = some (.pointer (some ⟨B, 0, none⟩)) ∧ A.cell? ⟨b7 + 1, 0, none⟩ = some (.pointer (some ⟨C, 0, none⟩)) ∧ A.cell? ⟨K, 0, none⟩ = some (.int .i64 (n' : Int))) := Lib.hid (fun A hb => ⟨keep_cell c19 hb, keep_cell c7 hb, keep_cell c8 hb, keep_cell c3 hb⟩)
            have KEEP2 : Hid (∀ U, Below W2.heap.size W2 U → (fun A : World => A.cell? ⟨b19, 0, none⟩ = some (.slice pr (ordL of l1 false).length cr) ∧ A.cell? ⟨b7, 0, none⟩ = some (.pointer (some ⟨B, 0, none⟩)) ∧ A.cell? ⟨b7 + 1, 0, none⟩ = some (.pointer (some ⟨C, 0, none⟩)) ∧ A.cell? ⟨K, 0, none⟩ = some (.int .i64 (n' : Int))) (U.setCell ⟨K + 1 + 1, 0, none⟩ (.bool true))) := Lib.hid (fun U hb => ⟨keep_set _ c19 c6 (by intro e; cases e) hb, keep_set _ c7 c6 (by intro e; cases e) hb, keep_set _ c8 c6 (by intro e; cases e) hb, keep_set _ c3 c6 (by intro e; cases e) hb⟩)
            have KEEP6 : Hid (∀ A, Below W2.heap.size W2 A → A.cell? ⟨K + 1 + 1, 0, none⟩ = some (.bool false) ∧ A.frozen? ⟨K + 1 + 1, 0, none⟩ = false) := Lib.hid (fun A hb => ⟨keep_cell c6 hb, keep_free c6 f6 hb⟩)
            have sa := KEEP.out W2.drew HDa.out
            have CS1 : Hid (∀ U, Below W2.heap.size W2 U → Calls Try.prog 26 #[.slice pr (ordL of l1 false).length cr, v5] U (TruePost U)) := Lib.hid (fun U hb => sameInts_any (HSO.out.below hb) (HSW.out.below hb) (Nat.le_trans HOL.out (Nat.le_trans HNN.out.2 (by decide))))
            have CSa := Lib.hid (fun U (hb : Below W2.heap.size W2 U) => save_any (HJE.out.below hb).pool)
            obtain ⟨F0, _, hF0⟩ := HJE.out.pool
            have hlen0 : ∀ i, i < 3 → (of' i).length ≤ 2000 := fun i hi => by
              have h1 := List.Nodup.length_le_of_subset (hF0.nodup i hi) (l₂ := List.range n') (fun x hx => List.mem_range.2 (hF0.lt i hi x hx))
              rw [List.length_range] at h1
              exact Nat.le_trans h1 (Nat.le_trans HNN.out.2 (by decide))
            have CSq := Lib.hid (fun U (hb : Below W2.heap.size W2 U) => rsave_any (HJE.out.below hb).ls hF0 hlen0 (Nat.le_trans HNN.out.2 (by decide)) (by show 3 ≤ 64; decide))
            have hn100 : n' ≤ 100000 := Nat.le_trans HNN.out.2 (by decide)
            have HN100 := Lib.hid hn100
            have HC6 := Lib.hid c6
            have i7 : (metS of 5 : Int) ≤ n' := by have := HM5.out; omega
            clear hF0 hlen0 hn100 c3 c6 f6 c7 c8 c19
            refine wpIn_wide.2 ?_
            go_region_held3 (fun A => A.cell? ⟨b19, 0, none⟩ = some (.slice pr (ordL of l1 false).length cr) ∧ A.cell? ⟨b7, 0, none⟩ = some (.pointer (some ⟨B, 0, none⟩)) ∧ A.cell? ⟨b7 + 1, 0, none⟩ = some (.pointer (some ⟨C, 0, none⟩)) ∧ A.cell? ⟨K, 0, none⟩ = some (.int .i64 (n' : Int))) (first | with_reducible exact sa | with_reducible exact KEEP.out _ HKa.out | exact KEEP2.out _ HKa.out) (first
              | (go_at_call 26; refine (CS1.out _ HDa.out).mono ?_; rintro e zs ⟨rfl, hb⟩
                 have HKa := Lib.hid (HDa.out.trans (hb.mono HDa.out.size))
                 clear CS1 hb)
              | (go_at_call 16; refine (CSa.out _ HKa.out).mono ?_; rintro e zs ⟨D1, F1, rfl, hR1, hF1⟩
                 have hb := hR1.old
                 have HS1 := Lib.hid hR1.rows.st
                 have HF1 := Lib.hid hF1
                 have HKa := Lib.hid (HKa.out.trans (hb.mono HKa.out.size))
                 clear CSa hR1 hF1 hb
                 unfold stV slc at HS1 ⊢)
              | (go_at_call 20; refine (CSq.out _ HKa.out).mono ?_; rintro e zq ⟨s, F2, rfl, hs2, hF2, hb2⟩
                 have CE := Lib.hid (same_any (HS1.out.below hb2) (hs2.turn hF2 HF1.out (fun _ _ => rfl)) HN100.out (by show 3 ≤ 100000; decide))
                 have HKa := Lib.hid (HKa.out.trans (hb2.mono HKa.out.size))
                 obtain ⟨a0, a1, a2, a3, a4, a5, rfl, _⟩ := hs2.ex
                 clear CSq hs2 hF2 hb2)
              | (go_at_call 19; refine CE.out.mono ?_; rintro e zt ⟨rfl, hb⟩
                 have HKa := Lib.hid (HKa.out.trans (hb.mono HKa.out.size))
                 clear CE hb)
              | (go_at_call 9; refine (CA.out _).mono ?_; rintro e zu ⟨rfl, hb⟩
                 have HKa := Lib.hid (HKa.out.trans (hb.mono HKa.out.size))
                 obtain ⟨c6, f6⟩ := KEEP6.out _ HKa.out
                 clear hb))
            gi_wp2
            obtain ⟨hm1, hm2, hm3⟩ := walk_end HC6.out HKa.out HME.out HWX.out (by rw [← HKW.out]; exact Nat.le_succ_of_le (Nat.le_succ _)) HDD.out
            refine ⟨by simp, .inl ⟨D', _, rfl, run_takeDeferred hm1, ?_⟩⟩
            exact ⟨.bool true, ret_walks rfl hm2, rfl, hm3⟩
          | true =>
            obtain ⟨p5, c5, rfl⟩ := row_form HW.out
            obtain ⟨N, hN⟩ : ∃ N, N = (of l1).length := ⟨_, rfl⟩
            rw [← hN] at HW
            have HRO := Lib.hid (own_rowO HW.out)
            have hN60 : N ≤ 60 := by rw [hN, ← HL0.out]; exact HL60.out
            have HN := Lib.hid hN; have HN60 := Lib.hid hN60
            have w0 : IntKind.i64.wrap ((N : Int) - 1) = (N : Int) - 1 := IntWalk.i64_in _ (by omega)
            rw [← hN]
            rw [← hN] at HJX HV5G HV5L
            clear hN
            have HOG := Lib.hid HV5G.out
            have HBG : Hid (base ≤ b17 + 1) := Lib.hid (Nat.le_succ_of_le (Nat.le_trans HJ0.out.bs HB17.out))
            have ltb : K + 1 + 1 ≤ b17 ∧ b7 + 1 ≤ b17 := by
              have h1 := HS1.out; have h2 := HJ0.out.old.size; have h3 := HB17.out; have h4 := HZ2.out
              omega
            have HCE : Hid (∀ V, BelowS (fun q => (Value.slice p5 N c5).ownBlock = some q) W2.heap.size W2 V → V.cell? ⟨K, 0, none⟩ = some (.int .i64 (n' : Int)) ∧ V.cell? ⟨K + 1 + 1, 0, none⟩ = some (.bool false) ∧ V.frozen? ⟨K + 1 + 1, 0, none⟩ = false ∧ V.cell? ⟨b7, 0, none⟩ = some (.pointer (some ⟨B, 0, none⟩)) ∧ V.cell? ⟨b7 + 1, 0, none⟩ = some (.pointer (some ⟨C, 0, none⟩)) ∧ V.cell? ⟨b19, 0, none⟩ = some (.slice pr (ordL of l1 true).length cr) ∧ V.heap[D']? = some (.deferred (some [])) ∧ SlF V (.slice pr (ordL of l1 true).length cr) (ordL of l1 true).length (natF (ordL of l1 true))) := Lib.hid (fun V hV => by
              have no : ∀ q, q ≤ b17 → ¬ (Value.slice p5 N c5).ownBlock = some q := fun q hq e => by have := HOG.out q e; omega
              have n19 : ¬ (Value.slice p5 N c5).ownBlock = some b19 := fun e => Nat.lt_irrefl _ (HV5L.out b19 e)
              refine ⟨keep_cellS c3 hV (no K (by omega)), keep_cellS c6 hV (no _ ltb.1), keep_freeS c6 f6 hV (no _ ltb.1), keep_cellS c7 hV (no b7 (by omega)), keep_cellS c8 hV (no _ ltb.2), keep_cellS c19 hV n19, (hV.block D' (Array.getElem?_eq_some_iff.1 HM.out).1 (fun e => ?_)).trans HM.out, slF_keepS HSO.out hV (fun q e e2 => ?_)⟩
              · have h1 := HV5L.out D' e; have h2 := HDX.out; omega
              · have h1 := HV5L.out q e2; have h2 := HRG.out q e; omega)
            clear ltb c3 c6 f6 c7 c8 c19
            gi_wp2
            gi_loopg [26, 27] N (fun n1 x26 x27 wr => ∃ i : Nat, x26 = .int .i64 (i : Int) ∧ x27 = .int .i64 ((N : Int) - 1 - i) ∧ i + n1 = N ∧ RevI (b17 + 1) W2 p5 c5 N (natF (of l1)) i wr)
            case atStart => exact ⟨0, rfl, by simp, by omega, RevI.start HRO.out⟩
            case round =>
              obtain ⟨i, rfl, rfl, hin, hrv⟩ := hrel
              obtain ⟨wx, rfl⟩ : ∃ wx : World, wx = wr := ⟨_, rfl⟩
              by_cases hi : i + 1 < N - i
              · obtain ⟨m', rfl⟩ : ∃ m', gk = m' + 1 := ⟨gk - 1, by omega⟩
                obtain ⟨k, hk⟩ : ∃ k, k = N - 1 - i := ⟨_, rfl⟩
                obtain ⟨g5, hp5, hg5, x, y, x1, x2, y1, y2, hnext⟩ := hrv.step hk hi
                subst hp5
                have ek : (N : Int) - 1 - i = (k : Int) := by omega
                rw [ek]
                have t1 : (i : Int) < (k : Int) := by omega
                have j0 : (0 : Int) ≤ i := by omega
                have j1 : (i : Int) < N := by omega
                have j2 : (0 : Int) ≤ k := by omega
                have j3 : (k : Int) < N := by omega
                have q1 : IntKind.i64.wrap ((i : Int) + 1) = (i : Int) + 1 := IntWalk.i64_in _ (by omega)
                have q2 : IntKind.i64.wrap ((k : Int) - 1) = (k : Int) - 1 := IntWalk.i64_in _ (by omega)
                have s1 := set_other_cell (u := .int .i64 y) (i := i) y1 (by omega)
                have s2 := set_frozen (u := .int .i64 y) (i := i) y1 y2
                have s3 := set_other_cell (u := .int .i64 x) (i := k) x1 (by omega)
                have s4 := set_frozen (u := .int .i64 x) (i := k) x1 x2
                have HIK : Hid (i < N ∧ k < N ∧ k ≠ i) := Lib.hid (by omega)
                have HNEXT := Lib.hid hnext; have HIN := Lib.hid hin; have HEK := Lib.hid ek
                clear hnext hrv hin hi ek hk w0
                gi_wp2
                refine swap_region rfl HIK.out.1 HIK.out.2.1 HIK.out.2.2 rfl rfl rfl x1 x2 y1 y2 ?_
                clear x1 x2 y1 y2 s1 s2 s3 s4
                rw [puts_14]
                simp only [swVal, Act.put, List.setIfInBounds_toArray, List.set_cons_zero, List.set_cons_succ]
                have HNX := Lib.hid (HNEXT.out ((wx.drew.setCell ⟨g5, i, none⟩ (.int .i64 y)).setCell ⟨g5, k, none⟩ (.int .i64 x)) rfl rfl rfl rfl)
                clear HNEXT
                gi_wp2
                gi_roundg m'
                case measure => have := HIN.out; omega
                case rel => exact ⟨i + 1, by go_num, by have := HEK.out; congr 1; omega, by have := HIN.out; omega, HNX.out⟩
              · have ei : ¬ (i : Int) < (N : Int) - 1 - i := by omega
                have HREV := Lib.hid (revF_end (L := of l1) (i := i) (by rw [← HN.out]; omega) (by rw [← HN.out]; omega))
                obtain ⟨c3, c6, f6, c7, c8, c19, hme, hso2⟩ := HCE.out wx hrv.1
                have HSO := Lib.hid hso2
                have HME := Lib.hid hme
                have HJE := Lib.hid (hrv.jst HJX.out (fun q e => Nat.le_trans HBG.out (HOG.out q e)))
                have HWX := Lib.hid (HB1.out.trans (HJE.out.old.mono HB1.out.size))
                have hor : (ordL of l1 true).length = N := by rw [HN.out]; show (of l1).reverse.length = _; exact List.length_reverse
                have HSW : Hid (SlF wx (.slice p5 N c5) (ordL of l1 true).length (natF (ordL of l1 true))) := Lib.hid (by
                  have h := (hrv.2.sl (c := c5)).congr (f' := natF (ordL of l1 true)) (fun j hj => by rw [HN.out] at hj ⊢; exact HREV.out j hj)
                  rw [hor]; exact h)
                clear hso2 hme hrv hin hi hor HREV w0
                gi_wp2
                have HDa := Lib.hid ((Below.refl wx.heap.size wx).drew)
                have KEEP : Hid (∀ A, Below wx.heap.size wx A → A.cell? ⟨b19, 0, none⟩ = some (.slice pr (ordL of l1 true).length cr) ∧ A.cell? ⟨b7, 0, none⟩ = some (.pointer (some ⟨B, 0, none⟩)) ∧ A.cell? ⟨b7 + 1, 0, none⟩ = some (.pointer (some ⟨C, 0, none⟩)) ∧ A.cell? ⟨K, 0, none⟩ = some (.int .i64 (n' : Int))) := Lib.hid (fun A hb => ⟨keep_cell c19 hb, keep_cell c7 hb, keep_cell c8 hb, keep_cell c3 hb⟩)
                have KEEP2 : Hid (∀ U, Below wx.heap.size wx U → (fun A : World => A.cell? ⟨b19, 0, none⟩ = some (.slice pr (ordL of l1 true).length cr) ∧ A.cell? ⟨b7, 0, none⟩ = some (.pointer (some ⟨B, 0, none⟩)) ∧ A.cell? ⟨b7 + 1, 0, none⟩ = some (.pointer (some ⟨C, 0, none⟩)) ∧ A.cell? ⟨K, 0, none⟩ = some (.int .i64 (n' : Int))) (U.setCell ⟨K + 1 + 1, 0, none⟩ (.bool true))) := Lib.hid (fun U hb => ⟨keep_set _ c19 c6 (by intro e; cases e) hb, keep_set _ c7 c6 (by intro e; cases e) hb, keep_set _ c8 c6 (by intro e; cases e) hb, keep_set _ c3 c6 (by intro e; cases e) hb⟩)
                have KEEP6 : Hid (∀ A, Below wx.heap.size wx A → A.cell? ⟨K + 1 + 1, 0, none⟩ = some (.bool false) ∧ A.frozen? ⟨K + 1 + 1, 0, none⟩ = false) := Lib.hid (fun A hb => ⟨keep_cell c6 hb, keep_free c6 f6 hb⟩)
                have sa := KEEP.out wx.drew HDa.out
                have CS1 : Hid (∀ U, Below wx.heap.size wx U → Calls Try.prog 26 #[.slice pr (ordL of l1 true).length cr, .slice p5 N c5] U (TruePost U)) := Lib.hid (fun U hb => sameInts_any (HSO.out.below hb) (HSW.out.below hb) (Nat.le_trans HOL.out (Nat.le_trans HNN.out.2 (by decide))))
                have CSa := Lib.hid (fun U (hb : Below wx.heap.size wx U) => save_any (HJE.out.below hb).pool)
                obtain ⟨F0, _, hF0⟩ := HJE.out.pool
                have hlen0 : ∀ i, i < 3 → (of' i).length ≤ 2000 := fun i hi => by
                  have h1 := List.Nodup.length_le_of_subset (hF0.nodup i hi) (l₂ := List.range n') (fun x hx => List.mem_range.2 (hF0.lt i hi x hx))
                  rw [List.length_range] at h1
                  exact Nat.le_trans h1 (Nat.le_trans HNN.out.2 (by decide))
                have CSq := Lib.hid (fun U (hb : Below wx.heap.size wx U) => rsave_any (HJE.out.below hb).ls hF0 hlen0 (Nat.le_trans HNN.out.2 (by decide)) (by show 3 ≤ 64; decide))
                have hn100 : n' ≤ 100000 := Nat.le_trans HNN.out.2 (by decide)
                have HN100 := Lib.hid hn100
                have HC6 := Lib.hid c6
                have i7 : (metS of 5 : Int) ≤ n' := by have := HM5.out; omega
                clear hF0 hlen0 hn100 c3 c6 f6 c7 c8 c19
                refine wpIn_wide.2 ?_
                go_region_held3 (fun A => A.cell? ⟨b19, 0, none⟩ = some (.slice pr (ordL of l1 true).length cr) ∧ A.cell? ⟨b7, 0, none⟩ = some (.pointer (some ⟨B, 0, none⟩)) ∧ A.cell? ⟨b7 + 1, 0, none⟩ = some (.pointer (some ⟨C, 0, none⟩)) ∧ A.cell? ⟨K, 0, none⟩ = some (.int .i64 (n' : Int))) (first | with_reducible exact sa | with_reducible exact KEEP.out _ HKa.out | exact KEEP2.out _ HKa.out) (first
                  | (go_at_call 26; refine (CS1.out _ HDa.out).mono ?_; rintro e zs ⟨rfl, hb⟩
                     have HKa := Lib.hid (HDa.out.trans (hb.mono HDa.out.size))
                     clear CS1 hb)
                  | (go_at_call 16; refine (CSa.out _ HKa.out).mono ?_; rintro e zs ⟨D1, F1, rfl, hR1, hF1⟩
                     have hb := hR1.old
                     have HS1 := Lib.hid hR1.rows.st
                     have HF1 := Lib.hid hF1
                     have HKa := Lib.hid (HKa.out.trans (hb.mono HKa.out.size))
                     clear CSa hR1 hF1 hb
                     unfold stV slc at HS1 ⊢)
                  | (go_at_call 20; refine (CSq.out _ HKa.out).mono ?_; rintro e zq ⟨s, F2, rfl, hs2, hF2, hb2⟩
                     have CE := Lib.hid (same_any (HS1.out.below hb2) (hs2.turn hF2 HF1.out (fun _ _ => rfl)) HN100.out (by show 3 ≤ 100000; decide))
                     have HKa := Lib.hid (HKa.out.trans (hb2.mono HKa.out.size))
                     obtain ⟨a0, a1, a2, a3, a4, a5, rfl, _⟩ := hs2.ex
                     clear CSq hs2 hF2 hb2)
                  | (go_at_call 19; refine CE.out.mono ?_; rintro e zt ⟨rfl, hb⟩
                     have HKa := Lib.hid (HKa.out.trans (hb.mono HKa.out.size))
                     clear CE hb)
                  | (go_at_call 9; refine (CA.out _).mono ?_; rintro e zu ⟨rfl, hb⟩
                     have HKa := Lib.hid (HKa.out.trans (hb.mono HKa.out.size))
                     obtain ⟨c6, f6⟩ := KEEP6.out _ HKa.out
                     clear hb))
                gi_wp2
                obtain ⟨hm1, hm2, hm3⟩ := walk_end HC6.out HKa.out HME.out HWX.out (by rw [← HKW.out]; exact Nat.le_succ_of_le (Nat.le_succ _)) HDD.out
                refine ⟨by simp, .inl ⟨D', _, rfl, run_takeDeferred hm1, ?_⟩⟩
                exact ⟨.bool true, ret_walks rfl hm2, rfl, hm3⟩
theorem walks_walk {W : World} {p : Option Addr} {len cap : Nat} (s : Int) {a b c : Nat} (ha : a ≤ 255) (hb : b ≤ 255) (hc : c ≤ 255) (hx : CallsAt W p len) : Calls Try.prog 5 #[.int .i64 s, .slice p len cap, arr3 a b c] W (TruePost W) := by
  by_cases h : s < 1 ∨ 60 < s ∨ 60 < (len : Int)
  · exact walks_far s a b c h
  · obtain ⟨n, rfl⟩ : ∃ n : Nat, s = (n : Int) := ⟨s.toNat, by omega⟩
    exact callsIn_wide.1 (walks_near (by omega) (by omega) hx ha hb hc)
end Go.Proofs.Ytmelcohfjonjfaa
