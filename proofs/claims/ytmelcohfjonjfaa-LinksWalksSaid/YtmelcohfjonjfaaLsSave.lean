/- links: the reference's Save. -/
import Derived.Test.YtmelcohfjonjfaaLsRow
import Derived.Deep.RegionLaw
namespace Go.Proofs.Ytmelcohfjonjfaa
open Go.RowKit

/-- One more at the end of a row of one's own, in a region that draws; where it lies. -/
theorem step_app3 {ops : Array Oper} {o : Oper} {a : Act} {w : World} {K : Act → World → Prop} {Q : Exit → Act → World → Prop} {E : Prop} (hgd : o.guard = none) (s x : Operand)
    (ho : o.op = .call { callee := .builtin .append, args := #[s, x], argTypes := #[29, 29] }) (v : Value) (n : Nat) (xs : List Value) (hs : a.eval s = v) {base : Nat} (hown : w.ownsRow base 3 1 v n xs)
    (q : Nat) (z : Value) (hx : a.eval x = .slice (some ⟨q, 0, none⟩) 1 1) (hq : w.heap[q]? = some (.cells #[z] 3 (0, 0))) (hz : z.oneCell' = true) (hb : base ≤ w.heap.size) (hn : n + 1 ≤ 100000)
    (h : ∀ v' w', w'.ownsRow base 3 1 v' (n + 1) (xs ++ [z]) → w.grownBy w' v.ownBlock → (v'.ownBlock = v.ownBlock ∨ v'.ownBlock = some w.heap.size) → K (a.put o.dst v') w') :
    if Region.wanted o (yielded ops a.tmps) = true then Oper.wp Try.prog o a w K Q else E := by
  have hw : Region.wanted o (yielded ops a.tmps) = true := by simp [Region.wanted, hgd]
  rw [if_pos hw]
  obtain ⟨i0, hi0, hz0, hz1, hz2⟩ := info_partsB info_int
  obtain ⟨v', w', hrun, h2, h3, _, h5⟩ := run_append_own_at (P := Try.prog) (w := w) base 29 o.type 3 i0 (.int .i64 0) 1 8 Try.underlying29 hi0 hz0 hz1 hz2 rfl (by decide) v n xs hown ⟨q, 0, none⟩ 1 1 [z] rfl
    (fun j u hj => by
      have e : j = 0 := by have := (List.getElem?_eq_some_iff.1 hj).1; simp at this; exact this
      subst e
      simp at hj
      rw [← hj]
      exact row_cell (i := 0) hq rfl)
    (fun u hu => by rw [List.mem_singleton.1 hu]; exact hz) (by unfold maxLen; omega) (by omega) hb
  unfold Oper.wp execOp
  simp only [ho, resolve, invoke, builtin, Sem.run_bind, Sem.run_pure, Result.andThen_ok, List.map_toArray, List.map_cons, List.map_nil, hs, hx, hrun]
  exact h v' w' h2 h3 h5
/-- What the rows hold after i slots. -/
def X1 (v : Nat → Int) (i : Nat) : Nat → List Value := fun c => if c = 0 then IntC i v else if c < 4 then IntC i (fun _ => -1) else []
def SvSt (B base n : Nat) (W2 : World) (x : Nat → List Value) (w : World) : Prop := ∃ u, BelowS (fun k => k = B) base W2 w ∧ BoxC w B u ∧ Fam w base (fam6 u x)
theorem Fam.more {w : World} {base : Nat} {F : Nat → Option (Value × List Value)} (h : Fam w base F) (o : Obj) : Fam (w.alloc o) base F := ⟨fun i v xs hi => (h.own i v xs hi).alloc o, h.sep⟩
theorem sv5 {B base : Nat} {W2 wx w4 : World} {u : Nat → Value} {x : Nat → List Value} {o : Obj} {v4 : Value} {ys : List Value} (hbb : BelowS (fun k => k = B) base W2 wx) (hbox : BoxC wx B u) (hfam : Fam wx base (fam6 u x)) (hB : B < base) (hbw : base ≤ wx.heap.size)
    (hown : w4.ownsRow base 3 1 v4 ys.length ys) (hg : (wx.alloc o).drew.grownBy w4 (u 0).ownBlock) (hq : v4.ownBlock = (u 0).ownBlock ∨ v4.ownBlock = some (wx.alloc o).drew.heap.size) (hx : w4.heap[B]? = wx.heap[B]?) :
    BelowS (fun k => k = B) base W2 (w4.setCell ⟨B, 0, none⟩ v4) ∧ BoxC (w4.setCell ⟨B, 0, none⟩ v4) B (updV u 0 v4) ∧ Fam (w4.setCell ⟨B, 0, none⟩ v4) base (fam6 (updV u 0 v4) (updV x 0 ys)) := by
  have h0 := hfam.own 0 _ _ (fam6_some (by decide))
  have hb1 : Below base wx w4 := (((Below.refl base wx).alloc hbw o).drew).grown hg (by show base ≤ (wx.alloc o).heap.size; rw [size1]; omega) (fun q e => (h0.lt q e).1)
  refine ⟨(hbb.trans (BelowS.of hb1)).cell (S := fun k => k = B) rfl _ _, (hbox.keep hx).set (by decide) _, ?_⟩
  have hf : Fam w4 base (updV (fam6 u x) 0 (some (v4, ys))) := ((hfam.more o).drew).app (fam6_some (by decide)) hown hg hq
  refine (hf.sub fun i r hr => ?_).cell hB 0 v4
  unfold fam6 at hr
  by_cases e : i = 0
  · subst e
    rw [updV_same, ← hr]
    rfl
  · rw [updV_ne e]
    rw [updV_ne e, updV_ne e] at hr
    exact hr
theorem len5 (v : Nat → Int) {k : Nat} (hk : k ≤ 2000) (z : Value) : ∀ c, c < 6 → (updV (X1 v k) 0 (IntC k v ++ [z]) c).length + 1 ≤ 100000 := by
  intro c hc
  by_cases e : c = 0
  · subst e
    rw [updV_same, List.length_append, IntC_len]
    show k + 1 + 1 ≤ _
    omega
  · rw [updV_ne e]
    unfold X1
    rw [if_neg e]
    split
    · rw [IntC_len]; omega
    · simp
theorem IntC_next (k : Nat) (f : Nat → Int) : IntC k f ++ [Value.int .i64 (f k)] = IntC (k + 1) f := by unfold IntC; rw [List.range_succ, List.map_append]; rfl
theorem x1_next (v : Nat → Int) (k : Nat) : (fun c => if 1 ≤ c ∧ c < 1 + 3 then updV (X1 v k) 0 (IntC k v ++ [Value.int .i64 (v k)]) c ++ [Value.int .i64 (-1)] else updV (X1 v k) 0 (IntC k v ++ [Value.int .i64 (v k)]) c) = X1 v (k + 1) := by
  funext c
  by_cases e : c = 0
  · subst e
    rw [if_neg (by omega), updV_same, IntC_next]
    rfl
  · rw [updV_ne e]
    unfold X1
    rw [if_neg e, if_neg e]
    by_cases h4 : c < 4
    · rw [if_pos (by omega), if_pos h4, if_pos h4]
      exact IntC_next k (fun _ => -1)
    · rw [if_neg (by omega), if_neg h4, if_neg h4]
set_option maxHeartbeats 4000000 in
set_option maxRecDepth 100000 in
theorem rsave_any {K : Nat → Prop} {W : World} {C g gv cg cv n m : Nat} {v : Nat → Int} {of : Nat → List Nat} (h : LsAt K W C g gv cg cv n m v of) {F0 : LkF} (h0 : Rep n m of F0) (hl : ∀ i, i < m → (of i).length ≤ 2000) (hn : n ≤ 2000) (hm : m ≤ 64) :
    Calls Try.prog 20 #[.pointer (some ⟨C, 0, none⟩)] W (RSavePost n m v of W) := by
  obtain ⟨A, hA⟩ : ∃ A : Obj, A = (.cells #[.slice none 0 0, .slice none 0 0, .slice none 0 0, .slice none 0 0, .slice none 0 0, .slice none 0 0] 39) := ⟨_, rfl⟩
  have HH := Lib.hid h; have HREP := Lib.hid h0; have HLEN := Lib.hid hl; have HN := Lib.hid hn; have HM := Lib.hid hm
  have hbox : BoxC ((W.alloc A).alloc A) (W.heap.size + 1) (fun _ => .slice none 0 0) := by
    have e := heap_alloc_new (W.alloc A) A
    rw [size1] at e
    rw [hA] at e ⊢
    exact e
  have hb0 : Below W.heap.size W ((W.alloc A).alloc A) := ((Below.refl _ W).alloc (Nat.le_refl _) A).alloc (by rw [size1]; omega) A
  have hs0 : ((W.alloc A).alloc A).heap.size = W.heap.size + 2 := by rw [size1, size1]
  have HRB : Hid (((W.alloc A).alloc A).heap[W.heap.size]? = some A) := Lib.hid ((Below.heap_alloc (W.alloc A) A W.heap.size (by rw [size1]; omega)).trans (heap_alloc_new W A))
  have HBX := Lib.hid hbox; have HB0 := Lib.hid hb0; have HS0 := Lib.hid hs0; have HA := Lib.hid hA
  clear h h0 hl hn hm hbox hb0 hs0
  go_enter Try.func20, Try.ntmps20
  go_wp2_with fail
  rw [← hA]
  generalize (W.alloc A).alloc A = W2 at HBX HB0 HS0 HRB ⊢
  obtain ⟨R, hR⟩ : ∃ R, R = W.heap.size := ⟨_, rfl⟩
  obtain ⟨B, hB⟩ : ∃ B, B = W.heap.size + 1 := ⟨_, rfl⟩
  rw [← hB] at HBX ⊢
  rw [← hR] at HB0 HS0 HRB hB ⊢
  obtain ⟨base, hbase⟩ : ∃ base, base = R + 2 := ⟨_, rfl⟩
  rw [← hbase] at HS0
  have HR := Lib.hid hR; have HB := Lib.hid hB; have HBA := Lib.hid hbase
  have HCB : Hid (C < R ∧ g < R ∧ gv < R) := Lib.hid (by
    rw [hR]
    exact ⟨(Array.getElem?_eq_some_iff.1 HH.out.box).1, by obtain ⟨cur, r1, _⟩ := HH.out.rows; exact (Array.getElem?_eq_some_iff.1 r1).1, HH.out.vals.lt⟩)
  clear hA hR hB hbase
  have HW2 : Hid (∀ k, k < R → W2.heap[k]? = W.heap[k]?) := Lib.hid (fun k hk => HB0.out.block k hk)
  go_loopg [4] n (fun n1 i wr => ∃ k : Nat, k + n1 = n ∧ i = .int .i64 (k : Int) ∧ SvSt B base n W2 (X1 v k) wr)
  case atStart => exact ⟨0, by omega, by go_num, _, BelowS.refl _ _ _, HBX.out, ⟨fun c u xs hc => (by
      unfold fam6 at hc
      by_cases h6 : c < 6
      · rw [if_pos h6] at hc
        cases hc
        have e : X1 v 0 c = [] := by unfold X1; split; · rfl
                                     split <;> rfl
        rw [e]
        exact World.ownsRow_nil _ _ _ _
      · rw [if_neg h6] at hc; cases hc), fun i j a xs b ys q _ hi _ hq => (by
      unfold fam6 at hi
      split at hi
      · cases hi; cases hq
      · cases hi)⟩⟩
  case round =>
    obtain ⟨k, hkn, rfl, u, hb, hbox, hfam⟩ := hrel
    obtain ⟨wx, rfl⟩ : ∃ wx : World, wx = wr := ⟨_, rfl⟩
    have hw : ∀ q, q < R → wx.heap[q]? = W.heap[q]? := fun q hq => (hb.block q (by have := HBA.out; omega) (by have := HB.out; omega)).trans (HW2.out q hq)
    have c0 := (World.cell?_of_block (w := W) (a := ⟨C, 0, none⟩) (hw C HCB.out.1)).trans HH.out.cells.1
    have c2 := (World.cell?_of_block (w := W) (a := ⟨C, 2, none⟩) (hw C HCB.out.1)).trans HH.out.cells.2.2
    have b0 := hbox.cell (c := 0) (by decide)
    obtain ⟨b1, b2⟩ := b0
    by_cases hlt : k < n
    · obtain ⟨n', rfl⟩ : ∃ n', gk = n' + 1 := ⟨gk - 1, by omega⟩
      have i1 : (k : Int) < n := by omega
      have i2 : (0 : Int) ≤ k := by omega
      have w1 : IntKind.i64.wrap ((k : Int) + 1) = (k : Int) + 1 := IntWalk.i64_in _ (by have := HN.out; omega)
      obtain ⟨y0, _⟩ := (HH.out.vals.get hlt)
      have y1 := (World.cell?_of_block (w := W) (hw gv HCB.out.2.2)).trans y0
      have hown0 := hfam.own 0 _ _ (fam6_some (by decide))
      have eX : X1 v k 0 = IntC k v := rfl
      rw [eX, IntC_len] at hown0
      obtain ⟨p0, q0, e0⟩ := own_slice hown0
      rw [e0] at hown0 b1
      have HW := Lib.hid hw; have HFAM := Lib.hid hfam; have HBOX := Lib.hid hbox; have HBB := Lib.hid hb; have HOWN := Lib.hid hown0; have HE0 := Lib.hid e0
      have HZ := Lib.hid (heap_alloc_new wx (.cells #[.int .i64 (v k)] 3))
      have hbw0 : base ≤ wx.heap.size := by have := hb.size; have := HS0.out; omega
      have HBW := Lib.hid (show base ≤ (wx.alloc (.cells #[.int .i64 (v k)] 3)).heap.size by rw [size1]; omega)
      have HK := Lib.hid (show k + 1 ≤ 100000 by have := HN.out; omega)
      have HXB := Lib.hid (show (wx.alloc (.cells #[.int .i64 (v k)] 3)).heap[B]? = wx.heap[B]? from Below.heap_alloc wx _ B (by have := HB.out; have := HBA.out; omega))
      have HBS := Lib.hid (show some B ≠ (Value.slice p0 k q0).ownBlock from fun e => by have := (hown0.lt B e.symm).1; have := HB.out; have := HBA.out; omega)
      have b3 : (wx.alloc (.cells #[.int .i64 (v k)] 3)).cell? ⟨B, 0, none⟩ = some (.slice p0 k q0) := (World.cell?_of_block (w := wx) (a := ⟨B, 0, none⟩) HXB.out).trans b1
      clear y0 hw hfam hbox hb hown0 eX e0 hbw0
      go_wp2_with fail
      go_region_law (refine step_app3 rfl (.tmp 17) (.tmp 25) rfl (.slice p0 k q0) k (IntC k v) rfl (base := base) (HOWN.out.alloc _) wx.heap.size (.int .i64 (v k)) rfl HZ.out rfl HBW.out HK.out ?_; intro v4 w4 hown4 hg4 hq4; obtain ⟨N4, hN4⟩ : ∃ N4, N4 = k + 1 := ⟨_, rfl⟩; rw [← hN4] at hown4; obtain ⟨p4, q4, rfl⟩ := own_slice hown4; have hx4 := (hg4.block B (by show B < (wx.alloc _).heap.size; have := HBW.out; have := HB.out; have := HBA.out; omega) HBS.out).trans HXB.out; have d0 := (HBOX.out.keep hx4).cell (c := 0) (by decide); obtain ⟨d1, d2⟩ := d0; rw [HE0.out] at d1; have HX4 := Lib.hid hx4; have HG4 := Lib.hid hg4; have HOWN4 := Lib.hid hown4; have HQ4 := Lib.hid hq4; have HN4 := Lib.hid hN4; clear hx4 hg4 hown4 hq4 hN4)
      all_goals
        have hN4 : N4 = (IntC k v ++ [Value.int .i64 (v k)]).length := by rw [List.length_append, IntC_len, HN4.out]; rfl
        have hown4 := HOWN4.out
        have hG4 := HG4.out; have hQ4 := HQ4.out
        rw [← HE0.out] at hG4 hQ4
        obtain ⟨s1, s2, s3⟩ := sv5 HBB.out HBOX.out HFAM.out (by have := HB.out; have := HBA.out; omega) (by have := HBB.out.size; have := HS0.out; omega) (hN4 ▸ hown4 : w4.ownsRow base 3 1 (.slice p4 N4 q4) (IntC k v ++ [Value.int .i64 (v k)]).length (IntC k v ++ [Value.int .i64 (v k)])) hG4 hQ4 HX4.out
        have S1 := Lib.hid s1; have S2 := Lib.hid s2; have S3 := Lib.hid s3
        clear hN4 hown4 hG4 hQ4 s1 s2 s3 d1 d2 HX4 HG4 HOWN4 HQ4 b1 b2 b3 HOWN HZ HBW HXB HBS c0 c2 y1
        generalize w4.setCell ⟨B, 0, none⟩ (.slice p4 N4 q4) = w5 at S1 S2 S3 ⊢
        generalize updV u 0 (.slice p4 N4 q4) = u5 at S2 S3
        go_wp2_with fail
        refine apps_region (B := B) (base := base) (c0 := 1) (K := 3) (t0 := 28) (u := u5) (x := updV (X1 v k) 0 (IntC k v ++ [Value.int .i64 (v k)])) (y := .int .i64 (-1)) rfl (ap6 B) (by kernel_rfl) (by decide) (by have := HB.out; have := HBA.out; omega) (by have := S1.out.size; have := HS0.out; omega) rfl (by decide) (Nat.le_of_ble_eq_true rfl) S2.out S3.out (len5 v (by have := HN.out; omega) _) ?_
        intro g6 u6 w6 b6 box6 fam6'
        rw [puts_15]
        have T1 := Lib.hid (S1.out.trans b6); have T2 := Lib.hid box6; have T3 := Lib.hid fam6'
        clear b6 box6 fam6' S1 S2 S3
        generalize g6 0 = r0; generalize g6 1 = r1; generalize g6 2 = r2; generalize g6 3 = r3; generalize g6 4 = r4; generalize g6 5 = r5; generalize g6 6 = r6; generalize g6 7 = r7; generalize g6 8 = r8; generalize g6 9 = r9; generalize g6 10 = r10; generalize g6 11 = r11; generalize g6 12 = r12; generalize g6 13 = r13; generalize g6 14 = r14
        simp only [Act.put, List.setIfInBounds_toArray, List.set_cons_zero, List.set_cons_succ]
        go_wp2_with fail
        go_roundg n'
        case measure => omega
        case rel => exact ⟨k + 1, by omega, by go_num, u6, T1.out, T2.out, by rw [← x1_next]; exact T3.out⟩
    · obtain rfl : k = n := by omega
      obtain rfl : gk = 0 := by omega
      have HT : Hid (Tri B base W2 u (XG k v { list := fun _ => -1, next := fun _ => -1, prev := fun _ => -1, first := fun _ => -1, last := fun _ => -1 } 0) wx) := Lib.hid (Tri.congr ⟨hb, hbox, hfam⟩ x1_xg)
      obtain ⟨n, rfl⟩ : ∃ n, n = k := ⟨_, rfl⟩
      clear hkn c2 b1 b2 hb hbox hfam hw
      go_wp2_with fail
      go_loopg [5] m (fun n2 i wr => ∃ (r : Nat) (G : LkF) (u : Nat → Value), r + n2 = m ∧ i = .int .i64 (r : Int) ∧ Rep n r (prt of r []) G ∧ Tri B base W2 u (XG n v G r) wr)
      case atStart => exact ⟨0, _, _, by omega, by go_num, (rep_nil n of _ rfl rfl rfl).congr (fun j hj => by omega), HT.out⟩
      case round =>
        obtain ⟨r, G, u, hrm, rfl, hrep, htri⟩ := hrel
        obtain ⟨wx, rfl⟩ : ∃ wx : World, wx = wr := ⟨_, rfl⟩
        have hw : ∀ q, q < R → wx.heap[q]? = W.heap[q]? := fun q hq => (htri.1.block q (by have := HBA.out; omega) (by have := HB.out; omega)).trans (HW2.out q hq)
        have c1 := (World.cell?_of_block (w := W) (a := ⟨C, 1, none⟩) (hw C HCB.out.1)).trans HH.out.cells.2.1
        clear hw
        by_cases hlt : r < m
        · obtain ⟨n', rfl⟩ : ∃ n', gk = n' + 1 := ⟨gk - 1, by omega⟩
          have i1 : (r : Int) < m := by omega
          have i2 : (0 : Int) ≤ r := by omega
          have w1 : IntKind.i64.wrap ((r : Int) + 1) = (r : Int) + 1 := IntWalk.i64_in _ (by have := HM.out; omega)
          have HREPR := Lib.hid hrep; have HTRI := Lib.hid htri
          clear hrep htri
          go_wp2_with fail
          refine apps_region (B := B) (base := base) (c0 := 4) (K := 2) (t0 := 52) (u := u) (x := XG n v G r) (y := .int .i64 (-1)) rfl (ap10 B) (by kernel_rfl) (by decide) (by have := HB.out; have := HBA.out; omega) (by have := HTRI.out.1.size; have := HS0.out; omega) rfl (by decide) (Nat.le_of_ble_eq_true rfl) HTRI.out.2.1 HTRI.out.2.2 (xg_len HN.out (by have := HM.out; omega)) ?_
          intro g6 u6 w6 b6 box6 fam6'
          rw [puts_10]
          have HT6 := Lib.hid (Tri.congr ⟨HTRI.out.1.trans b6, box6, fam6'⟩ xg_open)
          have HR6 := Lib.hid (rep_open HREPR.out)
          clear b6 box6 fam6' c1 HTRI HREPR
          generalize g6 0 = r0; generalize g6 1 = r1; generalize g6 2 = r2; generalize g6 3 = r3; generalize g6 4 = r4; generalize g6 5 = r5; generalize g6 6 = r6; generalize g6 7 = r7; generalize g6 8 = r8; generalize g6 9 = r9
          simp only [Act.put, List.setIfInBounds_toArray, List.set_cons_zero, List.set_cons_succ]
          go_wp2_with fail
          obtain ⟨ui, x0, _, hui⟩ := HH.out.row hlt
          obtain ⟨pi, ci, hpi, hx⟩ := hui.form
          rw [hpi] at x0
          obtain ⟨L, hL⟩ : ∃ L, L = of r := ⟨_, rfl⟩
          have hLn := HLEN.out r hlt
          rw [← hL] at x0 hx hLn
          have HX := Lib.hid hx; have HX0 := Lib.hid x0; have HL := Lib.hid hL; have HLN := Lib.hid hLn
          clear hx x0 hL hLn hui hpi
          go_loopg [6] L.length (fun n3 i wr => ∃ (k : Nat) (G2 : LkF), k + n3 = L.length ∧ i = .int .i64 (k : Int) ∧ Rep n (r + 1) (prt of r (L.take k)) G2 ∧ Tri B base W2 u6 (XG n v G2 (r + 1)) wr)
          case atStart => exact ⟨0, _, by omega, by go_num, HR6.out, HT6.out⟩
          case round =>
            obtain ⟨k, G2, hkl, rfl, hrep2, htri2⟩ := hrel
            obtain ⟨wy, rfl⟩ : ∃ wy : World, wy = wr := ⟨_, rfl⟩
            have hwy : ∀ (z : World) (x : Nat → List Value), Tri B base W2 u6 x z → ∀ q, q < R → z.heap[q]? = W.heap[q]? := fun z x hz q hq => (hz.1.block q (by have := HBA.out; omega) (by have := HB.out; omega)).trans (HW2.out q hq)
            have HWY := Lib.hid hwy
            have c1 : wy.cell? ⟨C, 1, none⟩ = some (.slice (some ⟨g, 0, none⟩) m cg) := (World.cell?_of_block (w := W) (a := ⟨C, 1, none⟩) (hwy wy _ htri2 C HCB.out.1)).trans HH.out.cells.2.1
            have x1 : wy.cell? ⟨g, r, none⟩ = some (.slice pi L.length ci) := (World.cell?_of_block (w := W) (a := ⟨g, r, none⟩) (hwy wy _ htri2 g HCB.out.2.1)).trans HX0.out
            clear hwy
            by_cases hk : k < L.length
            · obtain ⟨n4, rfl⟩ : ∃ n4, gk = n4 + 1 := ⟨gk - 1, by omega⟩
              obtain ⟨q, rfl, y0⟩ := HX.out k hk
              have hqR : q < R := by rw [HR.out]; exact World.block_lt_of_cell? _ _ y0
              obtain ⟨s, hs, hsn, hrep3⟩ := rep_step HREP.out hlt HL.out hk hrep2
              rw [hs] at y0
              have y1 : wy.cell? ⟨q, k, none⟩ = some (.int .i64 (s : Int)) := (World.cell?_of_block (w := W) (a := ⟨q, k, none⟩) (HWY.out wy _ htri2 q hqR)).trans y0
              have j1 : (k : Int) < L.length := by omega
              have j2 : (0 : Int) ≤ k := by omega
              have j3 : (s : Int) < n := by omega
              have j4 : (0 : Int) ≤ s := by omega
              have j5 : (r : Int) < ((r + 1 : Nat) : Int) := by omega
              have w3 : IntKind.i64.wrap ((k : Int) + 1) = (k : Int) + 1 := IntWalk.i64_in _ (by have := HLN.out; omega)
              have HREP3 := Lib.hid hrep3; have HTRI2 := Lib.hid htri2; have HQR := Lib.hid hqR
              obtain ⟨q1, a1, e1, b1, l1, f1, hq1, S1⟩ := tri_row htri2 (by have := HB.out; have := HBA.out; omega) (c := 1) (by decide) rfl hsn
              have HS1 := Lib.hid (S1 (r : Int)); have HQ1 := Lib.hid hq1
              clear S1 e1 hq1 hs hrep3 htri2 hrep2 hqR y0
              by_cases hk0 : k = 0
              · subst hk0
                have t1 : (((0 : Nat) : Int) == 0) = true := by decide
                obtain ⟨q4, a4, e4, b4, l4, f4, hq4, S4⟩ := tri_row HS1.out (by have := HB.out; have := HBA.out; omega) (c := 4) (N := r + 1) (f := G2.first) (by decide) rfl (Nat.lt_succ_self r)
                obtain ⟨q5, a5, e5, b5, l5, f5, hq5, S5⟩ := tri_row (S4 (s : Int)) (by have := HB.out; have := HBA.out; omega) (c := 5) (N := r + 1) (f := G2.last) (by decide) rfl (Nat.lt_succ_self r)
                have HS5 := Lib.hid ((S5 (s : Int)).congr xg_one)
                clear S4 S5 e4 e5 hq4 hq5 HTRI2
                go_wp2_with fail
                go_roundg n4
                case measure => omega
                case rel => exact ⟨1, _, by omega, by go_num, HREP3.out, HS5.out⟩
              · have t1 : ((k : Int) == 0) = false := beq_eq_false_iff_ne.2 (by omega)
                obtain ⟨p, hp, hpn, hpl, hne⟩ := rep_prev HREP.out hlt HL.out hk hk0
                obtain ⟨e, he⟩ : ∃ e, e = k - 1 := ⟨_, rfl⟩
                rw [← he] at hp
                obtain ⟨qq, hqq, y2⟩ := HX.out e (by omega)
                cases hqq
                rw [hp] at y2
                have HY2 := Lib.hid y2
                have j6 : (e : Int) < L.length := by omega
                have j7 : (0 : Int) ≤ e := by omega
                have j8 : (p : Int) < n := by omega
                have j9 : (0 : Int) ≤ p := by omega
                have w4 : IntKind.i64.wrap ((k : Int) - 1) = (e : Int) := by rw [IntWalk.i64_in _ (by have := HLN.out; omega)]; omega
                have HPN := Lib.hid hpn; have HXM := Lib.hid (xg_more (v := v) (n := n) (r := r + 1) (i := r) (s := s) (G := G2) hne hpl)
                have HB1 := Lib.hid (show B < base by have := HB.out; have := HBA.out; omega)
                clear hpn hne hpl he hp y2 HTRI2
                go_wp2_with fail
                generalize wy.setCell ⟨q1, s, none⟩ (.int .i64 (r : Int)) = wa at *
                clear c1 x1 y1 b1 l1 f1
                obtain ⟨q3, a3, e3, b3, l3, f3, hq3, S3⟩ := tri_row HS1.out HB1.out (c := 3) (N := n) (f := G2.prev) (by decide) rfl hsn
                have HT3 := Lib.hid (S3 (p : Int)).drew; have HQ3 := Lib.hid hq3
                clear S3 e3 hq3
                have d1 := HWY.out wa _ HS1.out
                have s3 : wa.drew.cell? ⟨B, 3, none⟩ = some (.slice (some ⟨q3, 0, none⟩) n a3) ∧ wa.drew.cell? ⟨C, 1, none⟩ = some (.slice (some ⟨g, 0, none⟩) m cg) ∧ wa.drew.cell? ⟨g, r, none⟩ = some (.slice (some ⟨q, 0, none⟩) L.length ci) ∧ wa.drew.cell? ⟨q, e, none⟩ = some (.int .i64 (p : Int)) := ⟨b3, (World.cell?_of_block (w := W) (a := ⟨C, 1, none⟩) (d1 C HCB.out.1)).trans HH.out.cells.2.1, (World.cell?_of_block (w := W) (a := ⟨g, r, none⟩) (d1 g HCB.out.2.1)).trans HX0.out, (World.cell?_of_block (w := W) (a := ⟨q, e, none⟩) (d1 q HQR.out)).trans HY2.out⟩
                have z3 : (wa.setCell ⟨q3, s, none⟩ (.int .i64 (p : Int))).drew.cell? ⟨B, 3, none⟩ = some (.slice (some ⟨q3, 0, none⟩) n a3) ∧ (wa.setCell ⟨q3, s, none⟩ (.int .i64 (p : Int))).drew.cell? ⟨C, 1, none⟩ = some (.slice (some ⟨g, 0, none⟩) m cg) ∧ (wa.setCell ⟨q3, s, none⟩ (.int .i64 (p : Int))).drew.cell? ⟨g, r, none⟩ = some (.slice (some ⟨q, 0, none⟩) L.length ci) ∧ (wa.setCell ⟨q3, s, none⟩ (.int .i64 (p : Int))).drew.cell? ⟨q, e, none⟩ = some (.int .i64 (p : Int)) := ⟨(World.cell?_of_block (w := wa) (Below.heap_setCell wa ⟨q3, s, none⟩ (.int .i64 (p : Int)) B (show B ≠ q3 by have := HQ3.out; have := HBA.out; have := HB.out; omega))).trans s3.1, (World.cell?_of_block (w := wa) (Below.heap_setCell wa ⟨q3, s, none⟩ (.int .i64 (p : Int)) C (show C ≠ q3 by have := HQ3.out; have := HBA.out; have := HCB.out; omega))).trans s3.2.1, (World.cell?_of_block (w := wa) (Below.heap_setCell wa ⟨q3, s, none⟩ (.int .i64 (p : Int)) g (show g ≠ q3 by have := HQ3.out; have := HBA.out; have := HCB.out; omega))).trans s3.2.2.1, (World.cell?_of_block (w := wa) (Below.heap_setCell wa ⟨q3, s, none⟩ (.int .i64 (p : Int)) q (show q ≠ q3 by have := HQ3.out; have := HBA.out; have := HQR.out; omega))).trans s3.2.2.2⟩
                clear d1
                go_region_held3 (fun Wx => Wx.cell? ⟨B, 3, none⟩ = some (.slice (some ⟨q3, 0, none⟩) n a3) ∧ Wx.cell? ⟨C, 1, none⟩ = some (.slice (some ⟨g, 0, none⟩) m cg) ∧ Wx.cell? ⟨g, r, none⟩ = some (.slice (some ⟨q, 0, none⟩) L.length ci) ∧ Wx.cell? ⟨q, e, none⟩ = some (.int .i64 (p : Int))) (first | with_reducible exact s3 | with_reducible exact z3) (fail)
                generalize (wa.setCell ⟨q3, s, none⟩ (.int .i64 (p : Int))).drew = wb at HT3 z3 ⊢
                clear s3 z3 b3 l3 f3
                obtain ⟨q2, a2, e2, b2, l2, f2, hq2, S2⟩ := tri_row HT3.out HB1.out (c := 2) (N := n) (f := G2.next) (by decide) rfl HPN.out
                have HT2 := Lib.hid (S2 (s : Int)).drew; have HQ2 := Lib.hid hq2
                clear S2 e2 hq2
                go_wp2_with fail
                have d1 := HWY.out wb _ HT3.out
                have s2 : wb.drew.cell? ⟨B, 2, none⟩ = some (.slice (some ⟨q2, 0, none⟩) n a2) ∧ wb.drew.cell? ⟨C, 1, none⟩ = some (.slice (some ⟨g, 0, none⟩) m cg) ∧ wb.drew.cell? ⟨g, r, none⟩ = some (.slice (some ⟨q, 0, none⟩) L.length ci) ∧ wb.drew.cell? ⟨q, e, none⟩ = some (.int .i64 (p : Int)) := ⟨b2, (World.cell?_of_block (w := W) (a := ⟨C, 1, none⟩) (d1 C HCB.out.1)).trans HH.out.cells.2.1, (World.cell?_of_block (w := W) (a := ⟨g, r, none⟩) (d1 g HCB.out.2.1)).trans HX0.out, (World.cell?_of_block (w := W) (a := ⟨q, e, none⟩) (d1 q HQR.out)).trans HY2.out⟩
                have z2 : (wb.setCell ⟨q2, p, none⟩ (.int .i64 (s : Int))).drew.cell? ⟨B, 2, none⟩ = some (.slice (some ⟨q2, 0, none⟩) n a2) ∧ (wb.setCell ⟨q2, p, none⟩ (.int .i64 (s : Int))).drew.cell? ⟨C, 1, none⟩ = some (.slice (some ⟨g, 0, none⟩) m cg) ∧ (wb.setCell ⟨q2, p, none⟩ (.int .i64 (s : Int))).drew.cell? ⟨g, r, none⟩ = some (.slice (some ⟨q, 0, none⟩) L.length ci) ∧ (wb.setCell ⟨q2, p, none⟩ (.int .i64 (s : Int))).drew.cell? ⟨q, e, none⟩ = some (.int .i64 (p : Int)) := ⟨(World.cell?_of_block (w := wb) (Below.heap_setCell wb ⟨q2, p, none⟩ (.int .i64 (s : Int)) B (show B ≠ q2 by have := HQ2.out; have := HBA.out; have := HB.out; omega))).trans s2.1, (World.cell?_of_block (w := wb) (Below.heap_setCell wb ⟨q2, p, none⟩ (.int .i64 (s : Int)) C (show C ≠ q2 by have := HQ2.out; have := HBA.out; have := HCB.out; omega))).trans s2.2.1, (World.cell?_of_block (w := wb) (Below.heap_setCell wb ⟨q2, p, none⟩ (.int .i64 (s : Int)) g (show g ≠ q2 by have := HQ2.out; have := HBA.out; have := HCB.out; omega))).trans s2.2.2.1, (World.cell?_of_block (w := wb) (Below.heap_setCell wb ⟨q2, p, none⟩ (.int .i64 (s : Int)) q (show q ≠ q2 by have := HQ2.out; have := HBA.out; have := HQR.out; omega))).trans s2.2.2.2⟩
                clear d1
                go_region_held3 (fun Wx => Wx.cell? ⟨B, 2, none⟩ = some (.slice (some ⟨q2, 0, none⟩) n a2) ∧ Wx.cell? ⟨C, 1, none⟩ = some (.slice (some ⟨g, 0, none⟩) m cg) ∧ Wx.cell? ⟨g, r, none⟩ = some (.slice (some ⟨q, 0, none⟩) L.length ci) ∧ Wx.cell? ⟨q, e, none⟩ = some (.int .i64 (p : Int))) (first | with_reducible exact s2 | with_reducible exact z2) (fail)
                generalize (wb.setCell ⟨q2, p, none⟩ (.int .i64 (s : Int))).drew = wc at HT2 z2 ⊢
                clear s2 z2 b2 l2 f2
                obtain ⟨q5, a5, e5, b5, l5, f5, hq5, S5⟩ := tri_row HT2.out HB1.out (c := 5) (N := r + 1) (f := G2.last) (by decide) rfl (Nat.lt_succ_self r)
                have HS5 := Lib.hid ((S5 (s : Int)).congr HXM.out)
                clear S5 e5 hq5
                go_wp2_with fail
                go_roundg n4
                case measure => omega
                case rel => exact ⟨k + 1, _, by omega, by go_num, HREP3.out, HS5.out⟩
            · obtain rfl : k = L.length := by omega
              have j1 : ¬ (L.length : Int) < L.length := by omega
              have hrep3 : Rep n (r + 1) (prt of (r + 1) []) G2 := by
                rw [List.take_length, HL.out] at hrep2
                exact hrep2.congr (prt_next of r)
              have HREP3 := Lib.hid hrep3; have HT3 := Lib.hid htri2
              clear hrep3 hrep2 htri2
              go_wp2_with fail
              go_roundg n'
              case measure => omega
              case rel => exact ⟨r + 1, G2, u6, by omega, by go_num, HREP3.out, HT3.out⟩
        · obtain rfl : r = m := by omega
          have i1 : ¬ (r : Int) < r := by omega
          have HREP3 := Lib.hid (hrep.congr (prt_zero of r)); have HT3 := Lib.hid htri
          clear hrep htri
          have hr6 := (HT3.out.1.block R (by have := HBA.out; omega) (by have := HB.out; omega)).trans HRB.out
          rw [HA.out] at hr6
          obtain ⟨p0, k0, a0, e0, b0⟩ := tri_slice HT3.out (c := 0) (by decide)
          obtain ⟨p1, k1, a1, e1, b1⟩ := tri_slice HT3.out (c := 1) (by decide)
          obtain ⟨p2, k2, a2, e2, b2⟩ := tri_slice HT3.out (c := 2) (by decide)
          obtain ⟨p3, k3, a3, e3, b3⟩ := tri_slice HT3.out (c := 3) (by decide)
          obtain ⟨p4, k4, a4, e4, b4⟩ := tri_slice HT3.out (c := 4) (by decide)
          obtain ⟨p5, k5, a5, e5, b5⟩ := tri_slice HT3.out (c := 5) (by decide)
          have d0 := row_cell (i := 0) (v := .slice none 0 0) hr6 rfl; have f0 := row_free (i := 0) hr6
          have d1 := row_cell (i := 1) (v := .slice none 0 0) hr6 rfl; have f1 := row_free (i := 1) hr6
          have d2 := row_cell (i := 2) (v := .slice none 0 0) hr6 rfl; have f2 := row_free (i := 2) hr6
          have d3 := row_cell (i := 3) (v := .slice none 0 0) hr6 rfl; have f3 := row_free (i := 3) hr6
          have d4 := row_cell (i := 4) (v := .slice none 0 0) hr6 rfl; have f4 := row_free (i := 4) hr6
          have d5 := row_cell (i := 5) (v := .slice none 0 0) hr6 rfl; have f5 := row_free (i := 5) hr6
          have HR6 := Lib.hid hr6
          have HFIN := Lib.hid (rsave_fin HT3.out HREP3.out HB0.out HR.out HB.out HBA.out e0 e1 e2 e3 e4 e5)
          clear hr6 e0 e1 e2 e3 e4 e5
          go_wp2_with fail
          have hbx := box6 (.slice p0 k0 a0) (.slice p1 k1 a1) (.slice p2 k2 a2) (.slice p3 k3 a3) (.slice p4 k4 a4) (.slice p5 k5 a5) HR6.out
          try simp only [Exit.inBlock, Exit.then]
          refine bodyPost_ret (results_cell_row rfl _ _ R _ _ _ _ rfl hbx Try.underlying39 rfl info_state) rfl ?_
          exact HFIN.out
end Go.Proofs.Ytmelcohfjonjfaa
