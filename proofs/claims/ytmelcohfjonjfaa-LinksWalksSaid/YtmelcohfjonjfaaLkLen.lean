/- links: Len. -/
import Derived.Test.YtmelcohfjonjfaaLrStep
namespace Go.Proofs.Ytmelcohfjonjfaa
open Go.RowKit Go.Shelf
attribute [local go_sem] Oper.semAt_some

/-- What holds between two rounds of Len. -/
def LnI (w3 : World) (b7 : Nat) (pre : List Nat) (W : World) : Prop :=
  BelowS (fun k => k = b7) w3.heap.size w3 W ∧ W.heap[b7]? = some (.cells #[.int .i64 ((pre.length : Nat) : Int)] 3 (0, 0))
theorem lnI_own (w3 : World) (b7 : Nat) : OwnFrom w3.heap.size (LnI w3 b7) :=
  OwnFrom.and (belowS_own (Nat.le_refl _)) (fun s A B row hs hg hr => cells_own (fun _ : Unit => b7) (fun _ => #[.int .i64 ((s.length : Nat) : Int)]) 3 () A B row hs hg hr)
set_option maxHeartbeats 4000000 in
set_option maxRecDepth 100000 in
theorem len_in (q B n m : Nat) (Dk : LkB) (vv : Nat → Int) (of : Nat → List Nat) (k : Nat) (hk : k < m) (w : World) (h3 : 3 ≤ q) (h : PoolS w B n m Dk vv of) :
    CallsIn Fence.wide q Try.prog 14 #[.pointer (some ⟨B, 0, none⟩), .int .i64 (k : Int)] w (fun e w' => e = .returned (TwoI ((of k).length : Int) 0) ∧ Below w.heap.size w w') := by
  refine callsIn_of_wp_marks Try.func14 rfl trivial ?_ rfl
  simp only [Try.ntmps14, List.size_toArray, List.length_cons, List.length_nil, Nat.reduceAdd, Nat.reduceSub, Array.replicate_succ, Array.replicate_zero, List.push_toArray, List.append_toArray, List.nil_append, List.cons_append]
  have hwf : ∀ f, Fence.wide.fn f := fun _ => trivial
  have hwd : Fence.wide.depth.isSome = false := rfl
  have hE : listE m (k : Int) = 0 := if_neg (by omega)
  have hall : allL m of (k : Int) false = of k := by unfold allL; rw [hE, if_pos rfl, toNat_cast]; rfl
  have hlen : (allL m of (k : Int) false).length ≤ 2000 := by
    obtain ⟨F, hp, hr⟩ := h
    exact Nat.le_trans (all_len hr (k : Int) false) hp.nn.2
  have hlt : ∀ k, k = B ∨ Dk.S k → k < w.heap.size := by
    obtain ⟨F, hp, hr⟩ := h
    exact hp.lt
  have CK : Calls Try.prog 41 #[.pointer (some ⟨B, 0, none⟩), .int .i64 (k : Int)] w (OkEq (.int .i64 0) w) := by
    obtain ⟨F, hp, hr⟩ := h
    have := checkList_any hp (k : Int)
    rw [hE] at this
    exact this
  have CK := Lib.hid CK
  have HP := Lib.hid h; have HLT := Lib.hid hlt
  clear h hlt hE
  have y1 : Below w.heap.size w (w.alloc (.cells #[.int .i64 0] 3)) := (Below.refl _ _).alloc (Nat.le_refl _) _
  have y7 := heap_alloc_new w (.cells #[.int .i64 0] 3)
  have gs1 : (w.alloc (.cells #[.int .i64 0] 3)).heap.size = w.heap.size + 1 := by simp
  gi_wp2_with (first
    | (gi_at_call 41; refine (callsIn_wide.2 CK.out).mono ?_; rintro e w1 ⟨rfl, rfl⟩)
    | (gi_at_call 27; refine (callsIn_wide.2 (All_any _ _ _ _)).mono ?_; rintro e w3 ⟨rfl, hw3⟩))
  obtain ⟨w2, hw2⟩ : ∃ w2 : World, w2 = w1.alloc (.cells #[.int .i64 0] 3) := ⟨_, rfl⟩
  rw [← hw2] at hw3 y1 y7 gs1 ⊢
  clear hw2
  obtain ⟨z1, z2, z3, z4, z5⟩ := alloc3 w2 (.cells #[.pointer (some ⟨B, 0, none⟩)] 24) (.cells #[.int .i64 (k : Int)] 3) (.cells #[.bool false] 4)
  rw [← hw3] at z1 z2 z3 z4 z5 ⊢
  clear hw3
  obtain ⟨b7, hb7⟩ : ∃ b7 : Nat, b7 = w1.heap.size := ⟨_, rfl⟩
  have e2 : w2.heap.size = b7 + 1 := by omega
  have hbw : Below w1.heap.size w1 w3 := y1.trans (z1.mono (by omega))
  have hreads : AReads (fun k => k = b7) w3.heap.size w2.heap.size B n m Dk vv of (k : Int) false w3 := ⟨Nat.le_refl _, z3, z4, z5, HP.out.below hbw⟩
  have hfree : AFree (fun k => k = b7) w3.heap.size w2.heap.size B Dk := ⟨by omega, by omega, by omega, by omega, fun k hk => by have := HLT.out k hk; exact ⟨by omega, by omega⟩⟩
  have hstops := all_stops (q - 1) (fun k => k = b7) w3.heap.size w2.heap.size B n m Dk vv of (k : Int) false hfree w3 hreads
  rw [e2] at hstops
  rw [← hb7] at y7 ⊢
  have h7 : w3.heap[b7]? = some (.cells #[.int .i64 ((([] : List Nat).length : Nat) : Int)] 3 (0, 0)) := (z1.block b7 (by omega)).trans y7
  have HBW := Lib.hid hbw
  have z6 : b7 + 1 + 3 ≤ w3.heap.size := by omega
  have z7 : b7 < w3.heap.size := by omega
  have z8 : w1.heap.size ≤ b7 := by omega
  rw [hall] at hstops hlen
  generalize hL : of k = L at *
  have HL := Lib.hid hL
  clear hL
  clear hreads hfree hbw z1 z2 z3 z4 z5 y7 e2 gs1 y1 hb7 hall
  refine wpIn_rangeFunc_ownH rfl (by omega) (gf := 58) (lb := #[.pointer (some ⟨b7 + 1, 0, none⟩), .pointer (some ⟨b7 + 1 + 1, 0, none⟩), .pointer (some ⟨b7 + 1 + 1 + 1, 0, none⟩)]) rfl trivial (enters_of Try.func58 (by kernel_rfl) rfl) hstops BelowS.trans (belowS_b (Nat.le_refl _)) (Below.refl _ _) (fun _ => rfl)
    (LnI w3 b7) (fun _ _ _ => False) (lnI_own w3 b7) (fun _ _ _ _ _ hs _ _ => hs)
    ⟨BelowS.refl _ _ _, h7⟩
    (fun x a' W2 => a' = { tmps := #[.pointer (some ⟨B, 0, none⟩), .int .i64 (k : Int), undef, undef, .int .i64 0, .int .i64 0, .int .i64 0, .pointer (some ⟨b7, 0, none⟩), .pointer (some ⟨B, 0, none⟩), .int .i64 (k : Int), .int .i64 0, .int .i64 0, .bool false, undef, .pointer (some ⟨B, 0, none⟩), .int .i64 (k : Int),
          .func (.func 58) #[] #[.pointer (some ⟨b7 + 1, 0, none⟩), .pointer (some ⟨b7 + 1 + 1, 0, none⟩), .pointer (some ⟨b7 + 1 + 1 + 1, 0, none⟩)], .int .i64 (x : Int), .int .i64 (vv x), undef, undef, undef], defers := [] })
    (fun x a' s A B row h hg hr => h) ?assign ?body ?done ?stop
  case assign =>
    intro ly pre x W2 K2 hi hK2
    have HI2 := Lib.hid hi; clear hi
    simp only [slotV]
    gi_wp2
    exact hK2 _ _ (KeepsFrom.refl _ _) (BelowS.refl _ _ _) HI2.out (by simp)
  case body =>
    rintro ly pre x a' W2 hly ⟨r, hr⟩ ⟨hbx, hbox⟩ rfl hlt
    clear hr
    have hwf2 : ∀ f, (Fence.wide.inRound ly).fn f := fun _ => trivial
    have hwd2 : (Fence.wide.inRound ly).depth.isSome = false := rfl
    obtain ⟨j7, f7⟩ := row1_cell hbox
    have w1' : IntKind.i64.wrap (((pre.length : Nat) : Int) + 1) = (((pre ++ [x]).length : Nat) : Int) := by rw [IntWalk.i64_in _ (by omega), List.length_append, List.length_singleton]; omega
    have hset := set_row1 (v := .int .i64 (((pre ++ [x]).length : Nat) : Int)) hbox
    have HB := Lib.hid (setS (S := fun k => k = b7) (D := w3.heap.size) (B := b7) hbx rfl (.int .i64 (((pre ++ [x]).length : Nat) : Int)))
    have HB1 := Lib.hid (setS (S := fun k => k = b7) (D := w3.heap.size) (B := b7) (BelowS.refl _ _ W2) rfl (.int .i64 (((pre ++ [x]).length : Nat) : Int)))
    have HSET := Lib.hid hset
    generalize hN1 : (pre ++ [x]).length = N1 at *
    generalize pre.length = N0 at *
    have HN1 := Lib.hid hN1
    clear hN1
    clear hstops hlt hlen hbx hbox hset
    gi_wp2
    exact ⟨(KeepsOthers.setCell _ _ _).from _, HB1.out, HB.out, by rw [HN1.out]; exact HSET.out⟩
  case done =>
    rintro D' ys W2 hD' hys ⟨hbx, hbox⟩ hmark
    have hys' : ys = L := hys
    rw [hys'] at hbox
    obtain ⟨j7, f7⟩ := row1_cell hbox
    have hbb : Below w1.heap.size w1 W2 := HBW.out.trans ⟨hbx.os, hbx.tape, hbx.output, hbx.size, fun k hk => hbx.block k (by omega) (by omega)⟩
    have HBB := Lib.hid hbb; have HM := Lib.hid hmark
    clear hys hys' hbx hmark hbb hstops hbox hlen
    gi_wp2
    refine ⟨by simp, .inl ⟨D', _, rfl, run_takeDeferred HM.out, ?_⟩⟩
    refine ⟨.tuple #[.int .i64 (L.length : Int), .int .i64 0], by simp [results, Try.results14, go_sem], by rw [HL.out]; rfl, ?_⟩
    exact HBB.out.trans ((Below.refl _ _).grown (grownBy_putObj' W2 D' _) (by have := HBB.out.size; omega) (fun k e => by cases e; omega))
  case stop =>
    rintro D' c pre W2 _ _ h _
    exact h.elim
/-- Len: the same for every list. -/
def LenPost (m : Nat) (of : Nat → List Nat) (l : Int) (w : World) (e : Ending) (w' : World) : Prop := e = .returned (lenW m of l) ∧ Below w.heap.size w w'
theorem len_any {B n m : Nat} {Dk : LkB} {vv : Nat → Int} {of : Nat → List Nat} {w : World} (h : PoolS w B n m Dk vv of) (l : Int) :
    Calls Try.prog 14 #[.pointer (some ⟨B, 0, none⟩), .int .i64 l] w (LenPost m of l w) := by
  unfold LenPost lenW
  rcases listE_cases m l with ⟨e, _⟩ | ⟨e, k, rfl, hk⟩
  · rw [e, if_neg (by decide)]
    refine (len_bad h e).mono ?_
    rintro e w1 ⟨rfl, rfl⟩
    exact ⟨rfl, Below.refl _ _⟩
  · rw [e, if_pos rfl, toNat_cast]
    exact callsIn_wide.1 (len_in 3 B n m Dk vv of k hk w (Nat.le_refl _) h)
end Go.Proofs.Ytmelcohfjonjfaa
