/- links: link, unlink. -/
import Derived.Test.YtmelcohfjonjfaaLkSmall
import Derived.BigRegion
namespace Go.Proofs.Ytmelcohfjonjfaa
open Go.RowKit

theorem BelowS.to {S : Nat → Prop} {D : Nat} {a b c : World} (h : BelowS S D a b) (k : BelowS S b.heap.size b c) (hd : D ≤ a.heap.size) : BelowS S D a c :=
  h.trans (k.less (Nat.le_trans hd h.size))
set_option maxHeartbeats 4000000 in
set_option maxRecDepth 100000 in
theorem link_any {W : World} {B n m : Nat} {D : LkB} {v : Nat → Int} {F : LkF} (h : PoolAt W B n m D v F) (x : Nat) (hx : x < n) (l : Nat) (hl : l < m) (b : Int) (hb : SlotOr n b)
    (ha : SlotOr n (if b = -1 then F.first l else F.next b.toNat)) :
    Calls Try.prog 65 #[.pointer (some ⟨B, 0, none⟩), .int .i64 (x : Int), .int .i64 (l : Int), .int .i64 b] W (PoolPost B n m D v (linkF F x l b) W) := by
  obtain ⟨c0, c1, c2, c3, c4, c5, c6⟩ := h.cells
  have j0 : (0 : Int) ≤ l := by omega
  have j1 : (l : Int) < m := by omega
  have x0 : (0 : Int) ≤ x := by omega
  have x1 : (x : Int) < n := by omega
  obtain ⟨f1, _⟩ := h.rf.get hl
  obtain ⟨l1, l2⟩ := h.rl.get hx
  have P1 := h.setList hx (l : Int)
  have T1 := Lib.hid (tie_any P1 l hl b x hb (.inr ⟨x, rfl, hx⟩))
  have B0 := Lib.hid ((BelowS.refl D.S W.heap.size W).cell (show D.S D.l from .inr (.inl rfl)) x (.int .i64 (l : Int)))
  have el : linkF F x l b = tieF (tieF { F with list := updF F.list x l } l b x) l x (if b = -1 then F.first l else F.next b.toNat) := rfl
  rw [el]
  have HX := Lib.hid hx
  have HL := Lib.hid hl
  rcases hb with rfl | ⟨bn, rfl, hbn⟩
  · rw [if_pos rfl] at ha ⊢
    have HA := Lib.hid ha
    generalize F.first l = a at f1 HA ⊢
    have tb : ((-1 : Int) != -1) = false := rfl
    clear h ha hx hl P1 el
    go_enter Try.func65, Try.ntmps65
    go_wp2_with fail
    refine T1.out.mono ?_
    rintro e w1 ⟨rfl, P2, B1⟩
    have T2 := Lib.hid (tie_any P2 l HL.out x a (.inr ⟨x, rfl, HX.out⟩) HA.out)
    have HB1 := Lib.hid B1
    clear P2 B1
    go_wp2_with fail
    refine T2.out.mono ?_
    rintro e w2 ⟨rfl, P3, B2⟩
    go_wp2_with fail
    go_end0
    exact ⟨rfl, P3, (B0.out.to HB1.out (Nat.le_refl _)).to B2 (Nat.le_refl _)⟩
  · rw [if_neg (ne_none bn), toNat_cast] at ha ⊢
    have HA := Lib.hid ha
    obtain ⟨y1, _⟩ := h.rn.get hbn
    generalize F.next bn = a at y1 HA ⊢
    have b0 : (0 : Int) ≤ bn := by omega
    have b1 : (bn : Int) < n := by omega
    have tb : ((bn : Int) != -1) = true := bne_iff_ne.2 (ne_none bn)
    clear h ha hx hl P1 el
    go_enter Try.func65, Try.ntmps65
    go_wp2_with fail
    refine T1.out.mono ?_
    rintro e w1 ⟨rfl, P2, B1⟩
    have T2 := Lib.hid (tie_any P2 l HL.out x a (.inr ⟨x, rfl, HX.out⟩) HA.out)
    have HB1 := Lib.hid B1
    clear P2 B1
    go_wp2_with fail
    refine T2.out.mono ?_
    rintro e w2 ⟨rfl, P3, B2⟩
    go_wp2_with fail
    go_end0
    exact ⟨rfl, P3, (B0.out.to HB1.out (Nat.le_refl _)).to B2 (Nat.le_refl _)⟩
end Go.Proofs.Ytmelcohfjonjfaa
