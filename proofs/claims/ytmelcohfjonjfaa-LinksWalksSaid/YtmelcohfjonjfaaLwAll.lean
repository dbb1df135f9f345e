/- links: All, where the loop's body may take the slot out that is yielded, or move it. -/
import Derived.Test.YtmelcohfjonjfaaLwSeq
import Derived.Test.YtmelcohfjonjfaaLwMath
namespace Go.Proofs.Ytmelcohfjonjfaa
open Go.RowKit Go.Shelf
attribute [local go_sem] Oper.semAt_some

/-- What the iterator reads when the slots pre of L have been yielded: what is left of L is the end of the list. -/
structure AWalk (K B n m : Nat) (Dk : LkB) (l : Nat) (back : Bool) (v0 : Nat → Int) (L : List Nat) (pre : List Nat) (W : World) : Prop where
  pbox : W.heap[K]? = some (.cells #[.pointer (some ⟨B, 0, none⟩)] 24 (0, 0))
  lbox : W.heap[K + 1]? = some (.cells #[.int .i64 (l : Int)] 3 (0, 0))
  bbox : W.heap[K + 1 + 1]? = some (.cells #[.bool back] 4 (0, 0))
  pool : ∃ v of A, PoolS W B n m Dk v of ∧ ordL of l back = A ++ L.drop pre.length ∧ ∀ y, y ∈ L.drop pre.length → v y = v0 y
set_option maxRecDepth 100000 in
set_option maxHeartbeats 2000000 in
theorem all2_in (q K B n m ly : Nat) (Dk : LkB) (v0 : Nat → Int) (L : List Nat) (l : Nat) (hl : l < m) (back : Bool)
    (J Jx : List Nat → World → Prop) (W : World) (hjb : AbidesFrom W.heap.size J)
    (hy : ∀ pre x W1, J pre W1 → (∃ rest, L = pre ++ x :: rest) → YieldAt Fence.wide (q - 1) Try.prog ly (slotV v0 x) W1 fun e W' => (e = .returned (.bool true) ∧ J (pre ++ [x]) W') ∨ (e = .returned (.bool false) ∧ Jx (pre ++ [x]) W'))
    (hR : ∀ pre W, J pre W → AWalk K B n m Dk l back v0 L pre W) (hst : ∃ v of, PoolS W B n m Dk v of ∧ ordL of l back = L) (h0 : J [] W) :
    CallsIn Fence.wide q Try.prog 58 #[.func (.yield ly) #[] #[], .pointer (some ⟨K, 0, none⟩), .pointer (some ⟨K + 1, 0, none⟩), .pointer (some ⟨K + 1 + 1, 0, none⟩)] W (IterPost L J Jx) := by
  refine callsIn_of_wp Try.func58 rfl trivial ?_ rfl
  simp only [Try.ntmps58, List.size_toArray, List.length_cons, List.length_nil, Nat.reduceAdd, Nat.reduceSub, Array.replicate_succ, Array.replicate_zero, List.push_toArray, List.append_toArray, List.nil_append, List.cons_append]
  have hwf : ∀ f, Fence.wide.fn f := fun _ => trivial
  have hwd : Fence.wide.depth.isSome = false := rfl
  have hr0 := hR _ _ h0
  have b1 := cell_of_row1 hr0.pbox
  have b2 := cell_of_row1 hr0.lbox
  have b3 := cell_of_row1 hr0.bbox
  have HR := Lib.hid hR; have HYY := Lib.hid hy; have HJ := Lib.hid h0; have HJB := Lib.hid hjb
  obtain ⟨v, of, ⟨F, hp, hr⟩, hord⟩ := hst
  have CK := checkList_any hp (l : Int)
  have e : listE m (l : Int) = 0 := by
    rcases listE_cases m (l : Int) with ⟨e, h⟩ | ⟨e, _⟩
    · exfalso; omega
    · exact e
  rw [e] at CK
  have CK := Lib.hid CK
  have CE := end_any hp l hl (!back)
  rw [ord_start hr hl back, hord] at CE
  have CE := Lib.hid CE
  have GROW : Hid (∀ pre wx wy, J pre wx → Below wx.heap.size wx wy → J pre wy) := Lib.hid (fun pre wx wy hj hb => HJB.out pre wx wy none hj (grownBy_of_below hb none) (fun r e => by cases e))
  clear hR hy h0 hjb hr0 hp hr hord e
  gi_wp2_with (first
    | (gi_at_call 41; refine (callsIn_wide.2 CK.out).mono ?_; rintro e w1 ⟨rfl, rfl⟩)
    | (gi_at_call 59; refine (callsIn_wide.2 CE.out).mono ?_; rintro e w1 ⟨rfl, rfl⟩))
  gi_loopg [5] L.length (fun n1 i wr => ∃ pre rest : List Nat, rest.length = n1 ∧ i = .int .i64 (hd rest) ∧ L = pre ++ rest ∧ J pre wr)
  case atStart => exact ⟨[], L, rfl, rfl, rfl, HJ.out⟩
  case round =>
    clear b1 b2 b3 HJ CK CE
    obtain ⟨pre, rest, hlen, rfl, hT, hj⟩ := hrel
    obtain ⟨wx, rfl⟩ : ∃ wx : World, wx = wr := ⟨_, rfl⟩
    have hrd := HR.out pre wx hj
    have HJ := Lib.hid hj; have HT := Lib.hid hT
    have b1 := cell_of_row1 hrd.pbox
    have b2 := cell_of_row1 hrd.lbox
    have b3 := cell_of_row1 hrd.bbox
    obtain ⟨v, of, A, ⟨F, hp, hr⟩, hord, hval⟩ := hrd.pool
    rw [hT, List.drop_left] at hord hval
    clear hj hrd
    cases rest with
    | nil =>
      obtain rfl : gk = 0 := by simpa using hlen.symm
      have t1 : ((-1 : Int) != -1) = false := rfl
      clear hp hr hT hord hval
      rw [show hd [] = -1 from rfl]
      gi_wp2
      refine wpIn_wide.2 ?_
      go_quiet (fail)
      gi_wp2
      go_end0
      exact iter_done (by rw [HT.out, List.append_nil]; exact GROW.out _ _ _ HJ.out (drewB _ _ _))
    | cons x rest =>
      obtain ⟨n', rfl⟩ : ∃ n', gk = n' + 1 := ⟨rest.length, by simpa using hlen.symm⟩
      obtain ⟨hs, hlst, hxn⟩ := ord_step hr hl hord
      obtain ⟨c0, c1, c2, c3, c4, c5, c6⟩ := hp.cells
      obtain ⟨y0, _⟩ := hp.rl.get hxn
      rw [hlst] at y0
      have x0 : (0 : Int) ≤ x := by omega
      have x1 : (x : Int) < n := by omega
      have t1 : ((x : Int) != -1) = true := bne_iff_ne.2 (by omega)
      have t2 : ((l : Int) == (l : Int)) = true := beq_self_eq_true _
      have HLEN := Lib.hid hlen
      have hpl : ∃ rest, L = pre ++ x :: rest := ⟨rest, hT⟩
      have HPL := Lib.hid hpl
      clear hp hr hT hs hlst hlen hpl hord hval
      rw [show hd (x :: rest) = (x : Int) from rfl]
      gi_wp2
      refine wpIn_wide.2 ?_
      go_quiet (fail)
      have hb := drewB wx.heap.size nq wx
      generalize wx.drewN nq = wy at hb ⊢
      have HJ2 := Lib.hid (GROW.out _ _ _ HJ.out hb)
      have hrd := HR.out pre wy HJ2.out
      clear b1 b2 b3 c0 c1 c2 c3 c4 c5 c6 y0 HJ hb
      have b1 := cell_of_row1 hrd.pbox
      have b2 := cell_of_row1 hrd.lbox
      have b3 := cell_of_row1 hrd.bbox
      obtain ⟨v, of, A, ⟨F, hp, hr⟩, hord, hval⟩ := hrd.pool
      rw [HT.out, List.drop_left] at hord hval
      obtain ⟨hs, hlst, _⟩ := ord_step hr hl hord
      obtain ⟨c0, c1, c2, c3, c4, c5, c6⟩ := hp.cells
      obtain ⟨z0, _⟩ := hp.rv.get hxn
      rw [hval x (List.mem_cons_self ..)] at z0
      have CS := step_any hp x hxn back
      rw [hs] at CS
      have CS := Lib.hid CS
      clear hp hr hs hlst hord hval hrd
      have hyl := HYY.out pre x wy HJ2.out HPL.out
      unfold slotV at hyl
      obtain ⟨fn2, tmps2, assign2, body2, hyy, hY⟩ := yield_bool hyl
      clear hyl
      gi_wp2_with (first
        | (gi_at_call 60; refine (callsIn_wide.2 CS.out).mono ?_; rintro e w1 ⟨rfl, rfl⟩))
      refine hY.mono ?_
      clear hyy hY
      rintro e w2 ⟨yb, rfl, hpost⟩
      rcases hpost with ⟨rfl, hj2⟩ | ⟨rfl, hjx⟩
      · have HJ3 := Lib.hid hj2
        clear hj2 b1 b2 b3 c0 c1 c2 c3 c4 c5 c6 z0 CS HJ2
        gi_wp2
        gi_roundg n'
        case measure => omega
        case rel => exact ⟨pre ++ [x], rest, by have := HLEN.out; simpa using this, by go_num, by rw [HT.out]; simp, HJ3.out⟩
      · have HJX := Lib.hid hjx
        clear hjx
        gi_wp2
        refine bodyPost_ret (results_none rfl _ _ _) rfl ?_
        exact iter_stop _ (by rw [HT.out]; exact ⟨rest, by simp⟩) HJX.out
/-- The iterator, as a loop that ranges over it wants it. -/
theorem all_rel (q K B n m : Nat) (Dk : LkB) (v0 : Nat → Int) (of0 : Nat → List Nat) (l : Nat) (hl : l < m) (back : Bool) (w : World) (h : PoolS w B n m Dk v0 of0) (hn : ∀ W, Below w.heap.size w W → PoolS W B n m Dk v0 of0) :
    SeqR Fence.wide q Try.prog 58 #[.pointer (some ⟨K, 0, none⟩), .pointer (some ⟨K + 1, 0, none⟩), .pointer (some ⟨K + 1 + 1, 0, none⟩)] (slotV v0) (AWalk K B n m Dk l back v0 (ordL of0 l back)) (fun ys => ys = ordL of0 l back) (fun ys => ys <+: ordL of0 l back) (fun pre x => ∃ rest, ordL of0 l back = pre ++ x :: rest) w := by
  intro ly J Jx W hW hJ hJx hR hY h0
  refine (all2_in q K B n m ly Dk v0 (ordL of0 l back) l hl back J Jx W (own_abides hJ) hY hR ⟨v0, of0, hn W hW, rfl⟩ h0).mono ?_
  rintro e W' ⟨hv, ⟨ys, hys, hj⟩ | ⟨pre, hpre, hj⟩⟩
  · exact ⟨hv, .inl ⟨ys, hys, hj⟩⟩
  · exact ⟨hv, .inr ⟨pre, hpre, hj⟩⟩
end Go.Proofs.Ytmelcohfjonjfaa
