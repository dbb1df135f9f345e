/- links: walked. -/
import Derived.Test.YtmelcohfjonjfaaLkAll
import Derived.RangeFuncBox
namespace Go.Proofs.Ytmelcohfjonjfaa
open Go.RowKit Go.Shelf
attribute [local go_sem] Oper.semAt_some

theorem setS {S : Nat → Prop} {D : Nat} {w W : World} (h : BelowS S D w W) {B : Nat} (hB : S B) (u : Value) : BelowS S D w (W.setCell ⟨B, 0, none⟩ u) :=
  h.trans ⟨rfl, rfl, rfl, by simp [World.setCell], fun k _ hk => Below.heap_setCell _ _ _ _ (fun e => hk (e ▸ hB))⟩
theorem app_row {W w1 : World} {D B : Nat} {t e : TypeId} {size : Nat} {v v' : Value} {k m : Nat} {xs ys : List Value} {tmp : Obj}
    (hv : Boxed W B t v) (hte : t ≠ e) (hrow : W.ownsRow D e size v k xs) (hD : D ≤ W.heap.size)
    (hown' : w1.ownsRow D e size v' m ys) (hgrow : (W.alloc tmp).grownBy w1 v.ownBlock) :
    Boxed w1 B t v ∧ Boxed (w1.setCell ⟨B, 0, none⟩ v') B t v' ∧ (w1.setCell ⟨B, 0, none⟩ v').ownsRow D e size v' m ys ∧ KeepsOthers W (w1.setCell ⟨B, 0, none⟩ v') ∧ BelowS (fun k => k = B) D W (w1.setCell ⟨B, 0, none⟩ v') := by
  have hv1 : Boxed w1 B t v := (hv.alloc tmp).kept hgrow (hv.not_row hte hrow)
  refine ⟨hv1, hv1.set v', hown'.kept (grownBy_setCell' w1 B v') (.inr (hv1.not_row hte hown').symm), ?_, ?_⟩
  · refine ((KeepsOthers.alloc W tmp).trans (KeepsOthers.of_grownBy hgrow fun j o ej hj => ?_)).trans (KeepsOthers.setCell _ _ _)
    rcases (hrow.alloc tmp).2 with ⟨rfl, _⟩ | ⟨g, cap, cur, rfl, _, hgb, _⟩
    · simp [Value.ownBlock] at ej
    · obtain rfl : g = j := by simpa [Value.ownBlock] using ej
      rw [hgb] at hj; cases hj; rfl
  · have h1 : BelowS (fun k => k = B) D W w1 := by
      refine (BelowS.of ((Below.refl D W).alloc hD tmp)).trans ⟨hgrow.os, hgrow.tape, hgrow.output, hgrow.size, fun k hk _ => hgrow.block k (by simp; omega) fun e => ?_⟩
      have := (hrow.lt k e.symm).1
      omega
    exact setS h1 rfl v'
theorem ownsRow_base {w : World} {b b' : Nat} {e : TypeId} {size : Nat} {v : Value} {n : Nat} {xs : List Value} (h : w.ownsRow b e size v n xs) (hb : b' ≤ b) : w.ownsRow b' e size v n xs := by
  refine ⟨h.1, ?_⟩
  rcases h.2 with hn | ⟨g, cap, cur, e1, hb1, rest⟩
  · exact .inl hn
  · exact .inr ⟨g, cap, cur, e1, Nat.le_trans hb hb1, rest⟩
def natC (L : List Nat) : List Value := L.map fun x : Nat => Value.int .i64 (x : Int)
theorem natC_snoc (L : List Nat) (x : Nat) : natC (L ++ [x]) = natC L ++ [.int .i64 (x : Int)] := by simp [natC]
theorem natC_len (L : List Nat) : (natC L).length = L.length := by simp [natC]
theorem cellB_one (w : World) (a : Value) (t : TypeId) (n : Nat) (hn : n = w.heap.size) : ∀ j u, [a][j]? = some u → (w.alloc (.cells #[a] t)).cell? ((⟨n, 0, none⟩ : Addr).add j) = some u := by
  subst hn
  intro j u hu
  rw [WideShapes.add_plain]
  have h := heap_alloc_new w (.cells #[a] t)
  match j, hu with
  | 0, hu => exact row_cell h (by simpa using hu)
theorem int_onecell (a : Int) : ∀ u ∈ [Value.int .i64 a], u.oneCell' = true := by
  intro u hu
  simp at hu
  rw [hu]; rfl
theorem ord_mem {of : Nat → List Nat} {l : Nat} {back : Bool} {x : Nat} : x ∈ ordL of l back ↔ x ∈ of l := by
  unfold ordL; cases back <;> simp
theorem all_len {n m : Nat} {of : Nat → List Nat} {F : LkF} (h : Rep n m of F) (l : Int) (back : Bool) : (allL m of l back).length ≤ n := by
  unfold allL
  rcases listE_cases m l with ⟨e, _⟩ | ⟨e, k, rfl, hk⟩
  · rw [e, if_neg (by decide)]; exact Nat.zero_le _
  · rw [e, if_pos rfl, toNat_cast]
    have h1 : (ordL of k back).length = (of k).length := by unfold ordL; cases back <;> simp
    rw [h1]
    have := List.Nodup.length_le_of_subset (h.nodup k hk) (l₂ := List.range n) (fun x hx => List.mem_range.2 (h.lt k hk x hx))
    simpa using this
/-- What holds between two rounds of walked. -/
def WkI (N : Nat) (w3 : World) (b7 : Nat) (pre : List Nat) (W : World) : Prop :=
  BelowS (fun k => k = b7) w3.heap.size w3 W ∧ ∃ v, Boxed W b7 29 v ∧ W.ownsRow w3.heap.size 3 1 v pre.length (natC pre) ∧ True
theorem wkI_own (N : Nat) (w3 : World) (b7 : Nat) : OwnFrom w3.heap.size (WkI N w3 b7) :=
  OwnFrom.and (belowS_own (Nat.le_refl _)) ((holdsRow_own w3.heap.size b7 29 3 1 (fun pre : List Nat => pre.length) (fun pre => natC pre) (fun _ _ => True)).from _)
/-- A list of slots that a call returned, in memory of its own. -/
def WalkPost (L : List Nat) (w : World) (e : Ending) (w' : World) : Prop := ∃ v, e = .returned v ∧ Below w.heap.size w w' ∧ w'.ownsRow w.heap.size 3 1 v L.length (natC L)
set_option maxHeartbeats 4000000 in
set_option maxRecDepth 100000 in
theorem walked_in (q B n m : Nat) (Dk : LkB) (vv : Nat → Int) (of : Nat → List Nat) (l : Int) (back : Bool) (w : World) (h3 : 3 ≤ q) (h : PoolS w B n m Dk vv of) :
    CallsIn Fence.wide q Try.prog 17 #[.pointer (some ⟨B, 0, none⟩), .int .i64 l, .bool back] w (WalkPost (allL m of l back) w) := by
  refine callsIn_of_wp_marks Try.func17 rfl trivial ?_ rfl
  simp only [Try.ntmps17, List.size_toArray, List.length_cons, List.length_nil, Nat.reduceAdd, Nat.reduceSub, Array.replicate_succ, Array.replicate_zero, List.push_toArray, List.append_toArray, List.nil_append, List.cons_append]
  have hwf : ∀ f, Fence.wide.fn f := fun _ => trivial
  have hwd : Fence.wide.depth.isSome = false := rfl
  have hlen : (allL m of l back).length ≤ 2000 := by
    obtain ⟨F, hp, hr⟩ := h
    exact Nat.le_trans (all_len hr l back) hp.nn.2
  have hlt : ∀ k, k = B ∨ Dk.S k → k < w.heap.size := by
    obtain ⟨F, hp, hr⟩ := h
    exact hp.lt
  have HP := Lib.hid h; have HLT := Lib.hid hlt
  clear h hlt
  obtain ⟨i0, hi, hz0, hz1, hz2⟩ := info_partsB info_int
  have HI := Lib.hid hi; have HZ0 := Lib.hid hz0; have HZ1 := Lib.hid hz1; have HZ2 := Lib.hid hz2
  clear hi hz0 hz1 hz2
  have y1 : Below w.heap.size w (w.alloc (.cells #[.slice none 0 0] 29)) := (Below.refl _ _).alloc (Nat.le_refl _) _
  have y7 : Boxed (w.alloc (.cells #[.slice none 0 0] 29)) w.heap.size 29 (.slice none 0 0) := Boxed.new _ _ _
  have gs1 : (w.alloc (.cells #[.slice none 0 0] 29)).heap.size = w.heap.size + 1 := by simp
  gi_wp2_with (gi_at_call 27; refine (callsIn_wide.2 (All_any _ _ _ _)).mono ?_; rintro e w3 ⟨rfl, hw3⟩)
  obtain ⟨w2, hw2⟩ : ∃ w2 : World, w2 = w.alloc (.cells #[.slice none 0 0] 29) := ⟨_, rfl⟩
  rw [← hw2] at hw3 y1 y7 gs1 ⊢
  clear hw2
  obtain ⟨z1, z2, z3, z4, z5⟩ := alloc3 w2 (.cells #[.pointer (some ⟨B, 0, none⟩)] 24) (.cells #[.int .i64 l] 3) (.cells #[.bool back] 4)
  rw [← hw3] at z1 z2 z3 z4 z5 ⊢
  clear hw3
  obtain ⟨b7, hb7⟩ : ∃ b7 : Nat, b7 = w.heap.size := ⟨_, rfl⟩
  have e2 : w2.heap.size = b7 + 1 := by omega
  have hbw : Below w.heap.size w w3 := y1.trans (z1.mono (by omega))
  have hreads : AReads (fun k => k = b7) w3.heap.size w2.heap.size B n m Dk vv of l back w3 := ⟨Nat.le_refl _, z3, z4, z5, HP.out.below hbw⟩
  have hfree : AFree (fun k => k = b7) w3.heap.size w2.heap.size B Dk := ⟨by omega, by omega, by omega, by omega, fun k hk => by have := HLT.out k hk; exact ⟨by omega, by omega⟩⟩
  have hstops := all_stops (q - 1) (fun k => k = b7) w3.heap.size w2.heap.size B n m Dk vv of l back hfree w3 hreads
  rw [e2] at hstops
  rw [← hb7] at y7 ⊢
  have h7 : Boxed w3 b7 29 (.slice none 0 0) := (z1.block b7 (by omega)).trans y7
  have HBW := Lib.hid hbw
  have z6 : b7 + 1 + 3 ≤ w3.heap.size := by omega
  have z7 : b7 < w3.heap.size := by omega
  have z8 : w.heap.size ≤ b7 := by omega
  have hs1 : w2.heap.size + 1 = b7 + 1 + 1 := by omega
  have hs2 : w2.heap.size + 1 + 1 = b7 + 1 + 1 + 1 := by omega
  generalize hL : allL m of l back = L at *
  clear hreads hfree hbw z1 z2 z3 z4 z5 y7 e2 gs1 y1 hL hs1 hs2 hb7
  refine wpIn_rangeFunc_ownH rfl (by omega) (gf := 58) (lb := #[.pointer (some ⟨b7 + 1, 0, none⟩), .pointer (some ⟨b7 + 1 + 1, 0, none⟩), .pointer (some ⟨b7 + 1 + 1 + 1, 0, none⟩)]) rfl trivial (enters_of Try.func58 (by kernel_rfl) rfl) hstops BelowS.trans (belowS_b (Nat.le_refl _)) (Below.refl _ _) (fun _ => rfl)
    (WkI L.length w3 b7) (fun _ _ _ => False) (wkI_own L.length w3 b7) (fun _ _ _ _ _ hs _ _ => hs)
    ⟨BelowS.refl _ _ _, .slice none 0 0, h7, World.ownsRow_nil _ _ _ _, trivial⟩
    (fun x a' W2 => a' = { tmps := #[.pointer (some ⟨B, 0, none⟩), .int .i64 l, .bool back, undef, undef, undef, .slice none 0 0, .pointer (some ⟨b7, 0, none⟩), .int .i64 (x : Int), .pointer (some ⟨B, 0, none⟩), .int .i64 l, .bool back,
          .func (.func 58) #[] #[.pointer (some ⟨b7 + 1, 0, none⟩), .pointer (some ⟨b7 + 1 + 1, 0, none⟩), .pointer (some ⟨b7 + 1 + 1 + 1, 0, none⟩)], .int .i64 (x : Int), .int .i64 (vv x), undef, undef, undef, undef, undef, undef, undef, undef], defers := [] })
    (fun x a' s A B row h hg hr => h) ?assign ?body ?done ?stop
  case assign =>
    intro ly pre x W2 K2 hi hK2
    have HI2 := Lib.hid hi; clear hi
    simp only [slotV]
    gi_wp2
    exact hK2 _ _ (KeepsFrom.refl _ _) (BelowS.refl _ _ _) HI2.out rfl
  case body =>
    rintro ly pre x a' W2 hly ⟨r, hr⟩ ⟨hbx, v, hk7, hown, _⟩ rfl hlt
    clear hr
    have hwf2 : ∀ f, (Fence.wide.inRound ly).fn f := fun _ => trivial
    have hwd2 : (Fence.wide.inRound ly).depth.isSome = false := rfl
    have hsn := natC_snoc pre x
    have j7 := hk7.cell
    have f7 := hk7.frozen
    have hszD := hbx.size
    have hb1 : pre.length + 1 ≤ maxLen := by unfold maxLen; omega
    have hb2 : (pre.length + 1) * 8 ≤ 140737488355328 := by omega
    have i1 : ¬ (2000 : Int) < ((pre.length + 1 : Nat) : Int) := by omega
    have i2 : ¬ (2000 : Int) < (pre.length : Int) + 1 := by omega
    have HL1 := Lib.hid hb1; have HL2 := Lib.hid hb2; have H1C := Lib.hid (int_onecell (x : Int))
    have HBX := Lib.hid hbx; have HK7 := Lib.hid hk7; have HOWN := Lib.hid hown; have HSN := Lib.hid hsn
    clear hbx hstops hk7 hown hb1 hb2 hsn hlt hlen
    gi_wp2_with (gi_at_builtin; refine wpListIn_append_own _ rfl _ _ 29 rfl w3.heap.size 3 i0 (.int .i64 0) 1 8 Try.underlying29 HI.out HZ0.out HZ1.out HZ2.out rfl (by decide) _ _ _ rfl (HOWN.out.alloc _) ⟨W2.heap.size, 0, none⟩ 1 1 [.int .i64 (x : Int)] rfl rfl (cellB_one _ _ _ _ rfl) H1C.out HL1.out HL2.out (by simp; omega) ?_; intro v4 w4 hown4 hgrow4 hnil4; obtain ⟨g4, cap4, rfl⟩ := ownsRow_succ hown4; obtain ⟨n1, n2, n3, n4, n5⟩ := app_row HK7.out (by decide) HOWN.out hszD hown4 hgrow4; have j8 := n1.cell; have f8 := n1.frozen; have j9 := n2.cell; have HN2 := Lib.hid n2; have HN3 := Lib.hid n3; have HN4 := Lib.hid n4; have HN5 := Lib.hid n5; clear hown4 hgrow4 hnil4 n1 n2 n3 n4 n5)
    exact ⟨HN4.out.from _, HN5.out, HBX.out.trans HN5.out, _, HN2.out, by rw [HSN.out, List.length_append]; exact HN3.out, trivial⟩
  case done =>
    rintro D' ys W2 hD' hys ⟨hbx, v, hk7, hown, _⟩ hmark
    have hys' : ys = L := hys
    rw [hys'] at hown
    have j7 := hk7.cell
    have hbb : Below w.heap.size w W2 := HBW.out.trans ⟨hbx.os, hbx.tape, hbx.output, hbx.size, fun k hk => hbx.block k (by omega) (by omega)⟩
    have HBB := Lib.hid hbb; have HM := Lib.hid hmark; have HOWN := Lib.hid hown
    clear hys hys' hbx hk7 hmark hbb hstops hown hlen
    gi_wp2
    refine ⟨by simp, .inl ⟨D', _, rfl, run_takeDeferred HM.out, ?_⟩⟩
    refine ⟨v, by simp [results, Try.results17, go_sem], v, rfl, ?_, ?_⟩
    · exact HBB.out.trans ((Below.refl _ _).grown (grownBy_putObj' W2 D' _) (by have := HBB.out.size; omega) (fun k e => by cases e; omega))
    · exact ownsRow_base (ownsRow_putObj HOWN.out _ HM.out rfl) (by omega)
  case stop =>
    rintro D' c pre W2 _ _ h _
    exact h.elim
theorem walked_any {B n m : Nat} {Dk : LkB} {vv : Nat → Int} {of : Nat → List Nat} {w : World} (h : PoolS w B n m Dk vv of) (l : Int) (back : Bool) :
    Calls Try.prog 17 #[.pointer (some ⟨B, 0, none⟩), .int .i64 l, .bool back] w (WalkPost (allL m of l back) w) :=
  callsIn_wide.1 (walked_in 3 B n m Dk vv of l back w (Nat.le_refl _) h)
end Go.Proofs.Ytmelcohfjonjfaa
