/- The reference's combined. -/
import Derived.Test.YtnhbilcpdombfaaSpROf
import Derived.Test.YtnhbilcpdombfaaSpNot
namespace Go.Proofs.Ytnhbilcpdombfaa
open Go.RowKit

/-- The cells of an array of 1024 truth values. -/
def BoolsIn (W : World) (B : Nat) (f : Nat → Bool) : Prop := ∀ j, j < 1024 → W.cell? ⟨B, j, none⟩ = some (.bool (f j))
theorem BoolsIn.below {W W' : World} {B : Nat} {f : Nat → Bool} (h : BoolsIn W B f) (hb : Below W.heap.size W W') : BoolsIn W' B f := fun j hj => (hb.cell (World.block_lt_of_cell? W _ (h j hj))).trans (h j hj)
theorem boolsIn_range {W : World} {B : Nat} {f : Nat → Bool} (h : W.rangeAt B 0 (boolA f 1024).toList) : BoolsIn W B f := fun j hj => by
  have := h j (.bool (f j)) (by rw [Array.getElem?_toList]; exact boolA_get f hj)
  rwa [Nat.zero_add] at this
theorem cell_setCells_other {B B' : Nat} (hB : B ≠ B') : ∀ (vs : List Value) (o : Nat) (W : World) (j : Nat), (W.setCells B o vs).cell? ⟨B', j, none⟩ = W.cell? ⟨B', j, none⟩
  | [], _, _, _ => rfl
  | v :: vs, o, W, j => (cell_setCells_other hB vs (o + 1) _ j).trans (World.cell?_of_block (Below.heap_setCell _ _ _ _ (by simp; omega)))
theorem heap_setCells_other {B B' : Nat} (hB : B ≠ B') : ∀ (vs : List Value) (o : Nat) (W : World), (W.setCells B o vs).heap[B']? = W.heap[B']?
  | [], _, _ => rfl
  | v :: vs, o, W => (heap_setCells_other hB vs (o + 1) _).trans (Below.heap_setCell _ _ _ _ (by simp; omega))
set_option maxRecDepth 100000 in
/-- Two arrays, each stored into a box of its own. -/
theorem two_boxes (w : World) (fa fb : Nat → Bool) : ∃ W1 W2,
    (storeCells ⟨w.heap.size, 0, none⟩ (boolA fa 1024).toList).run Try.prog ((w.alloc (.cells Try.zeroCells69 69)).alloc (.cells Try.zeroCells69 69)) = .ok () W1 ∧
    (storeCells ⟨w.heap.size + 1, 0, none⟩ (boolA fb 1024).toList).run Try.prog W1 = .ok () W2 ∧ Below w.heap.size w W2 ∧ BoolsIn W2 w.heap.size fa ∧ BoolsIn W2 (w.heap.size + 1) fb ∧ W2.heap.size = w.heap.size + 2 := by
  have hz1 : (w.alloc (.cells Try.zeroCells69 69)).heap.size = w.heap.size + 1 := by simp
  have n1 := heap_alloc_new w (.cells Try.zeroCells69 69)
  have n2 := heap_alloc_new (w.alloc (.cells Try.zeroCells69 69)) (.cells Try.zeroCells69 69)
  rw [hz1] at n2
  have n1' : ((w.alloc (.cells Try.zeroCells69 69)).alloc (.cells Try.zeroCells69 69)).heap[w.heap.size]? = some (.cells Try.zeroCells69 69 (0, 0)) := by
    rw [Below.heap_alloc _ _ _ (by omega)]; exact n1
  have hb : Below w.heap.size w ((w.alloc (.cells Try.zeroCells69 69)).alloc (.cells Try.zeroCells69 69)) := ((Below.refl _ _).alloc (Nat.le_refl _) _).alloc (by omega) _
  have hs : ((w.alloc (.cells Try.zeroCells69 69)).alloc (.cells Try.zeroCells69 69)).heap.size = w.heap.size + 2 := by simp
  rw [boolA_zero] at n1' n2 hb hs ⊢
  generalize (w.alloc (.cells (boolA (fun _ => false) 1024) 69)).alloc (.cells (boolA (fun _ => false) 1024) 69) = W0 at n1' n2 hb hs ⊢
  have r1 := run_store_boolA (f := fa) n1'
  have n2' : (W0.setCells w.heap.size 0 (boolA fa 1024).toList).heap[w.heap.size + 1]? = some (.cells (boolA (fun _ => false) 1024) 69 (0, 0)) := by
    rw [heap_setCells_other (by omega)]; exact n2
  have r2 := run_store_boolA (f := fb) n2'
  refine ⟨_, _, r1, r2, (hb.trans (below_setCells (Nat.le_refl _) _ 0 W0)).trans (below_setCells (by omega) _ 0 _), fun j hj => ?_, ?_, ?_⟩
  · rw [cell_setCells_other (by omega)]
    exact boolsIn_range (World.rangeAt_setCells_same W0 w.heap.size 0 (boolA fa 1024).toList (by rw [show (boolA fa 1024).toList.length = 1024 from by rw [Array.length_toList, boolA_size]]; exact there_boolA n1')) j hj
  · exact boolsIn_range (World.rangeAt_setCells_same _ (w.heap.size + 1) 0 (boolA fb 1024).toList (by rw [show (boolA fb 1024).toList.length = 1024 from by rw [Array.length_toList, boolA_size]]; exact there_boolA n2'))
  · have z : ∀ (vs : List Value) (B o : Nat) (W : World), (W.setCells B o vs).heap.size = W.heap.size := by
      intro vs
      induction vs with
      | nil => intro B o W; rfl
      | cons v vs ih => intro B o W; exact (ih B (o + 1) _).trans (by simp [World.setCell])
    rw [z, z, hs]
/-- What the rounds over the pages keep: both arrays, and the one that is filled. -/
structure CmI (w W : World) (bx by_ bo : Nat) (fa fb g : Nat → Bool) : Prop where
  below : Below w.heap.size w W
  x : BoolsIn W bx fa
  y : BoolsIn W by_ fb
  out : W.heap[bo]? = some (.cells (boolA g 1024) 69 (0, 0))
theorem CmI.at_ {w W : World} {bx by_ bo : Nat} {fa fb g : Nat → Bool} (h : CmI w W bx by_ bo fa fb g) {k : Nat} (hk : k < 1024) : W.cell? ⟨bo, k, none⟩ = some (.bool (g k)) ∧ W.frozen? ⟨bo, k, none⟩ = false := ⟨row_cell h.out (boolA_get g hk), row_free h.out⟩
theorem CmI.set {w W : World} {bx by_ bo : Nat} {fa fb : Nat → Bool} {k : Nat} {P : Nat → Bool} (h : CmI w W bx by_ bo fa fb (fun j => decide (j < k) && P j)) (g1 : bx < bo) (g2 : by_ < bo) (g3 : w.heap.size ≤ bo) :
    CmI w (W.setCell ⟨bo, k, none⟩ (.bool (P k))) bx by_ bo fa fb (fun j => decide (j < k + 1) && P j) := by
  refine ⟨Below.setCell (p := ⟨bo, k, none⟩) h.below g3 _, fun j hj => ?_, fun j hj => ?_, ?_⟩
  · exact (World.cell?_of_block (Below.heap_setCell _ _ _ _ (by simp; omega))).trans (h.x j hj)
  · exact (World.cell?_of_block (Below.heap_setCell _ _ _ _ (by simp; omega))).trans (h.y j hj)
  · rw [heap_set _ h.out, boolA_set (g := fun j => decide (j < k + 1) && P j)]
    · simp
    · intro i hi
      have : decide (i < k + 1) = decide (i < k) := decide_eq_decide.2 (by omega)
      simp only [this]
set_option maxHeartbeats 4000000 in
set_option maxRecDepth 100000 in
theorem comb1_any (a b : List (Int × Int)) (p q : Option Addr) (c d : Nat) (w : World) (h : SpsAt w p a) (h' : SpsAt w q b) :
    Calls Try.prog 54 #[.slice p a.length c, .slice q b.length d, .int .i64 1] w (SpsErr (unionR a b) w) := by
  have c1 := fun W (hW : Below w.heap.size w W) => rcheck_any a p c W (h.below hW)
  have c2 := fun W (hW : Below w.heap.size w W) => rcheck_any b q d W (h'.below hW)
  unfold ErrPost at c1 c2
  have e : unionR a b = joinedR (fun p => inS (down a) p || inS (down b) p) (setsE a b) := rfl
  have es : setsE a b = if checkR a ≠ 0 then checkR a else checkR b := rfl
  unfold joinedR at e
  have hoka := check_set (l := a)
  have hokb := check_set (l := b)
  have HP := Lib.hid h; have HQ := Lib.hid h'
  generalize checkR a = ka at c1 es hoka
  generalize checkR b = kb at c2 es hokb
  generalize setsE a b = cc at e es
  generalize unionR a b = r at e
  have C1 := Lib.hid c1; have C2 := Lib.hid c2
  clear c1 c2 h h'
  by_cases ha : ka ≠ 0
  · rw [if_pos ha] at es
    subst es
    rw [if_pos ha] at e
    obtain ⟨t1, t2⟩ := neq0 ha
    have E := Lib.hid e
    clear e ha hoka hokb
    go_enter Try.func54, Try.ntmps54
    go_wp2_with fail
    refine (C1.out _ (Below.refl _ _)).mono ?_
    rintro e w1 ⟨rfl, hb⟩
    have HB1 := Lib.hid hb
    clear hb
    go_wp2_with fail
    go_ret2
    exact spsErr_err E.out HB1.out
  · obtain rfl : ka = 0 := Classical.not_not.1 ha
    rw [if_neg ha] at es
    rw [es] at e
    clear es
    by_cases hb0 : kb ≠ 0
    · rw [if_pos hb0] at e
      obtain ⟨t1, t2⟩ := neq0 hb0
      have E := Lib.hid e
      clear e hb0 hoka hokb ha
      go_enter Try.func54, Try.ntmps54
      go_wp2_with fail
      refine (C1.out _ (Below.refl _ _)).mono ?_
      rintro e w1 ⟨rfl, hb⟩
      have HB1 := Lib.hid hb
      clear hb
      go_wp2_with fail
      refine (C2.out _ HB1.out).mono ?_
      rintro e w2 ⟨rfl, hb⟩
      have HB2 := Lib.hid (below_next HB1.out hb)
      clear hb
      go_wp2_with fail
      go_ret2
      exact spsErr_err E.out HB2.out
    · obtain rfl : kb = 0 := Classical.not_not.1 hb0
      rw [if_neg hb0] at e
      obtain ⟨hva, hsa, hla⟩ := hoka rfl
      obtain ⟨hvb, hsb, hlb⟩ := hokb rfl
      have hua := up_down hva
      have hub := up_down hvb
      have m1 := fun W (hW : Below w.heap.size w W) => rmarks_any (down a) p c W (by rw [hua]; exact HP.out.below hW) (down_okay hva) (by rw [down_len]; omega)
      have m2 := fun W (hW : Below w.heap.size w W) => rmarks_any (down b) q d W (by rw [hub]; exact HQ.out.below hW) (down_okay hvb) (by rw [down_len]; omega)
      rw [down_len] at m1 m2
      generalize inS (down a) = fa at e m1
      generalize inS (down b) = fb at e m2
      have M1 := Lib.hid m1; have M2 := Lib.hid m2; have E := Lib.hid e
      clear e hoka hokb ha hb0 hva hvb hsa hsb hua hub m1 m2
      go_enter Try.func54, Try.ntmps54
      go_wp2_with fail
      refine (C1.out _ (Below.refl _ _)).mono ?_
      rintro e w1 ⟨rfl, hb⟩
      have HB1 := Lib.hid hb
      clear hb
      go_wp2_with fail
      refine (C2.out _ HB1.out).mono ?_
      rintro e w2 ⟨rfl, hb⟩
      have HB2 := Lib.hid (below_next HB1.out hb)
      clear hb
      go_wp2_with fail
      refine (M1.out _ HB2.out).mono ?_
      rintro e w3 ⟨rfl, hb⟩
      have HB3 := Lib.hid (below_next HB2.out hb)
      clear hb
      go_wp2_with fail
      refine (M2.out _ HB3.out).mono ?_
      rintro e w4 ⟨rfl, hb⟩
      have HB4 := Lib.hid (below_next HB3.out hb)
      clear hb
      obtain ⟨W1, W2, r1, r2, rb, rx, ry, rs⟩ := two_boxes w4 fa fb
      have HB5 := Lib.hid (below_next HB4.out rb); have HX := Lib.hid rx; have HY := Lib.hid ry; have HS := Lib.hid rs
      clear rb rx ry rs
      go_wp2_with fail
      obtain ⟨P, hP⟩ : ∃ P : Nat → Bool, P = fun p => fa p || fb p := ⟨_, rfl⟩
      have hPp : ∀ j, P j = (fa j || fb j) := fun j => by rw [hP]
      rw [← hP] at E
      have HPP := Lib.hid hPp
      have hs4 := HS.out
      have bs1 : w4.heap.size < W2.heap.size := by omega
      have bs2 : w4.heap.size + 1 < W2.heap.size := by omega
      have bs0 : w.heap.size ≤ W2.heap.size := HB5.out.size
      obtain ⟨bx, hbx⟩ : ∃ bx, bx = w4.heap.size := ⟨_, rfl⟩
      obtain ⟨by_, hby⟩ : ∃ by_, by_ = w4.heap.size + 1 := ⟨_, rfl⟩
      rw [← hby] at HY bs2 ⊢
      rw [← hbx] at HX bs1 ⊢
      obtain ⟨bo, hbo⟩ : ∃ bo, bo = W2.heap.size := ⟨_, rfl⟩
      have HM := Lib.hid (show CmI w (W2.alloc (.cells Try.zeroCells69 69)) bx by_ bo fa fb (fun j => decide (j < 0) && P j) from by
        have hbe : Below W2.heap.size W2 (W2.alloc (.cells Try.zeroCells69 69)) := (Below.refl _ _).alloc (Nat.le_refl _) _
        refine ⟨below_next HB5.out hbe, HX.out.below hbe, HY.out.below hbe, ?_⟩
        have := heap_alloc_new W2 (.cells Try.zeroCells69 69)
        rw [hbo, this, boolA_zero, show (fun j : Nat => decide (j < 0) && P j) = fun _ => false from by funext j; simp])
      have g1 : bx < bo := by omega
      have g2 : by_ < bo := by omega
      have g3 : w.heap.size ≤ bo := by omega
      rw [← hbo]
      clear hP hPp hbx hby hbo bs1 bs2 bs0 hs4 r1 r2 HX HY HS HB5
      go_loopg [12] 1024 (fun n1 i W => ∃ k : Nat, k + n1 = 1024 ∧ i = .int .i64 k ∧ CmI w W bx by_ bo fa fb (fun j => decide (j < k) && P j))
      case atStart => exact ⟨0, by omega, by go_num, HM.out⟩
      case round =>
        clear HM
        obtain ⟨k, hkn, rfl, hinv⟩ := hrel
        have HI := Lib.hid hinv
        clear hinv
        have k0 : (0 : Int) ≤ k := by omega
        by_cases hlt : k < 1024
        · obtain ⟨n', rfl⟩ : ∃ n', gk = n' + 1 := ⟨gk - 1, by omega⟩
          have i1 : (k : Int) < 1024 := by omega
          have x0 := HI.out.x k hlt
          have y0 := HI.out.y k hlt
          obtain ⟨o0, o1⟩ := HI.out.at_ hlt
          have hpk := HPP.out k
          have HN := Lib.hid (HI.out.set (k := k) (P := P) g1 g2 g3)
          have s1 : ¬ bx = bo := by omega
          have s2 : ¬ by_ = bo := by omega
          cases hfa : fa k <;> cases hfb : fb k
          all_goals
            rw [hfa] at x0 hpk
            rw [hfb] at y0 hpk
            have HPK := Lib.hid hpk
            clear hpk hfa hfb
            go_wp2_with fail
            go_roundg n'
            case measure => omega
            case rel => exact ⟨k + 1, by omega, by go_num, by have := HN.out; rw [HPK.out] at this; exact this⟩
        · obtain rfl : k = 1024 := by omega
          have ho := HI.out.out
          rw [boolA_congr (f := fun j => decide (j < 1024) && P j) (g := P) (fun i hi => by simp [hi])] at ho
          have HO := Lib.hid ho; have HB := Lib.hid HI.out.below
          have CS := Lib.hid (rset_any P wr)
          have i1 : ¬ ((1024 : Nat) : Int) < 1024 := by omega
          clear ho HI HPP
          go_wp2_with fail
          refine wp_load_boolA rfl rfl HO.out ?_
          go_wp2_with fail
          refine CS.out.mono ?_
          rintro e w5 ⟨v, rfl, hb, hrow⟩
          have HB5 := Lib.hid (below_next HB.out hb)
          have HRW := Lib.hid (ownsRow_base hrow HB.out.size)
          clear hb hrow
          go_wp2_with fail
          go_ret2
          exact spsErr_mk E.out HB5.out HRW.out
end Go.Proofs.Ytnhbilcpdombfaa
