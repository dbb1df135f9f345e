/- links: isMade, before, end, step, checkSlot, checkList, tie. -/
import Derived.Test.YtmelcohfjonjfaaLkBase
import Derived.LaidEqlPtr
namespace Go.Proofs.Ytmelcohfjonjfaa
open Go.RowKit

def OkEq (c : Value) (w : World) (e : Ending) (w' : World) : Prop := e = .returned c ∧ w' = w
set_option maxHeartbeats 1000000 in
set_option maxRecDepth 100000 in
theorem isMade_any {W : World} {B n m : Nat} {D : LkB} {v : Nat → Int} {F : LkF} (h : PoolAt W B n m D v F) : Calls Try.prog 45 #[.pointer (some ⟨B, 0, none⟩)] W (OkEq (.bool true) W) := by
  obtain ⟨c0, _⟩ := h.cells
  obtain ⟨j, hj⟩ : ∃ j, Try.prog.info? 81 = some j := by
    have : (Try.prog.info? 81).isSome = true := by kernel_rfl
    exact Option.isSome_iff_exists.1 this
  have q := run_eql_ptr_same (P := Try.prog) (w := W) (⟨B, 0, none⟩ : Addr) Try.underlying24 hj
  clear h hj
  go_enter Try.func45, Try.ntmps45
  go_wp2_with fail
  go_ret
  exact ⟨rfl, rfl⟩
set_option maxHeartbeats 1000000 in
set_option maxRecDepth 100000 in
theorem isMade_nil (W : World) : Calls Try.prog 45 #[.pointer none] W (OkEq (.bool false) W) := by
  go_enter Try.func45, Try.ntmps45
  go_wp2_with fail
  go_ret
  exact ⟨rfl, rfl⟩
set_option maxHeartbeats 1000000 in
set_option maxRecDepth 100000 in
theorem before_any {W : World} {B n m : Nat} {D : LkB} {v : Nat → Int} {F : LkF} (h : PoolAt W B n m D v F) (l : Nat) (hl : l < m) (front : Bool) :
    Calls Try.prog 43 #[.pointer (some ⟨B, 0, none⟩), .int .i64 (l : Int), .bool front] W (OkEq (.int .i64 (if front then -1 else F.last l)) W) := by
  obtain ⟨c0, c1, c2, c3, c4, c5, c6⟩ := h.cells
  obtain ⟨x0, _⟩ := h.ra.get hl
  have j0 : (0 : Int) ≤ l := by omega
  have j1 : (l : Int) < m := by omega
  clear h
  cases front
  all_goals
    go_enter Try.func43, Try.ntmps43
    go_wp2_with fail
    go_ret
    exact ⟨rfl, rfl⟩
set_option maxHeartbeats 1000000 in
set_option maxRecDepth 100000 in
theorem end_any {W : World} {B n m : Nat} {D : LkB} {v : Nat → Int} {F : LkF} (h : PoolAt W B n m D v F) (l : Nat) (hl : l < m) (front : Bool) :
    Calls Try.prog 59 #[.pointer (some ⟨B, 0, none⟩), .int .i64 (l : Int), .bool front] W (OkEq (.int .i64 (if front then F.first l else F.last l)) W) := by
  obtain ⟨c0, c1, c2, c3, c4, c5, c6⟩ := h.cells
  obtain ⟨x0, _⟩ := h.ra.get hl
  obtain ⟨y0, _⟩ := h.rf.get hl
  have j0 : (0 : Int) ≤ l := by omega
  have j1 : (l : Int) < m := by omega
  clear h
  cases front
  all_goals
    go_enter Try.func59, Try.ntmps59
    go_wp2_with fail
    go_ret
    exact ⟨rfl, rfl⟩
set_option maxHeartbeats 1000000 in
set_option maxRecDepth 100000 in
theorem step_any {W : World} {B n m : Nat} {D : LkB} {v : Nat → Int} {F : LkF} (h : PoolAt W B n m D v F) (x : Nat) (hx : x < n) (back : Bool) :
    Calls Try.prog 60 #[.pointer (some ⟨B, 0, none⟩), .int .i64 (x : Int), .bool back] W (OkEq (.int .i64 (if back then F.prev x else F.next x)) W) := by
  obtain ⟨c0, c1, c2, c3, c4, c5, c6⟩ := h.cells
  obtain ⟨x0, _⟩ := h.rp.get hx
  obtain ⟨y0, _⟩ := h.rn.get hx
  have j0 : (0 : Int) ≤ x := by omega
  have j1 : (x : Int) < n := by omega
  clear h
  cases back
  all_goals
    go_enter Try.func60, Try.ntmps60
    go_wp2_with fail
    go_ret
    exact ⟨rfl, rfl⟩
/-- What checkSlot returns: 4, if that is no slot of a list. -/
def slotE (n : Nat) (F : LkF) (x : Int) : Int := if x < 0 ∨ (n : Int) ≤ x ∨ F.list x.toNat = -1 then 4 else 0
def listE (m : Nat) (l : Int) : Int := if l < 0 ∨ (m : Int) ≤ l then 7 else 0
set_option maxHeartbeats 2000000 in
set_option maxRecDepth 100000 in
theorem checkSlot_any {W : World} {B n m : Nat} {D : LkB} {v : Nat → Int} {F : LkF} (h : PoolAt W B n m D v F) (x : Int) :
    Calls Try.prog 44 #[.pointer (some ⟨B, 0, none⟩), .int .i64 x] W (OkEq (.int .i64 (slotE n F x)) W) := by
  obtain ⟨c0, c1, c2, c3, c4, c5, c6⟩ := h.cells
  have CM := Lib.hid (isMade_any h)
  have e : slotE n F x = if x < 0 ∨ (n : Int) ≤ x ∨ F.list x.toNat = -1 then 4 else 0 := rfl
  generalize slotE n F x = r at e ⊢
  by_cases h1 : x < 0
  · rw [if_pos (.inl h1)] at e
    subst e
    clear h
    go_enter Try.func44, Try.ntmps44
    go_wp2_with fail
    refine CM.out.mono ?_
    rintro e w1 ⟨rfl, rfl⟩
    go_wp2_with fail
    go_ret
    exact ⟨rfl, rfl⟩
  · obtain ⟨k, rfl⟩ : ∃ k : Nat, x = (k : Int) := ⟨x.toNat, by omega⟩
    rw [Int.toNat_natCast] at e
    have j0 : (0 : Int) ≤ k := by omega
    by_cases h2 : n ≤ k
    · have i2 : (n : Int) ≤ (k : Int) := by omega
      rw [if_pos (.inr (.inl i2))] at e
      subst e
      clear h h1
      go_enter Try.func44, Try.ntmps44
      go_wp2_with fail
      refine CM.out.mono ?_
      rintro e w1 ⟨rfl, rfl⟩
      go_wp2_with fail
      go_ret
      exact ⟨rfl, rfl⟩
    · have i2 : ¬ (n : Int) ≤ (k : Int) := by omega
      have i3 : (k : Int) < n := by omega
      obtain ⟨y0, _⟩ := h.rl.get (show k < n by omega)
      generalize F.list k = y at y0 e
      by_cases h3 : y = -1
      · rw [if_pos (.inr (.inr h3))] at e
        have t1 : (y == -1) = true := by rw [h3]; rfl
        subst e
        clear h h1 h2 h3
        go_enter Try.func44, Try.ntmps44
        go_wp2_with fail
        refine CM.out.mono ?_
        rintro e w1 ⟨rfl, rfl⟩
        go_wp2_with fail
        go_ret
        exact ⟨rfl, rfl⟩
      · rw [if_neg (by omega)] at e
        have t1 : (y == -1) = false := beq_eq_false_iff_ne.2 h3
        subst e
        clear h h1 h2 h3
        go_enter Try.func44, Try.ntmps44
        go_wp2_with fail
        refine CM.out.mono ?_
        rintro e w1 ⟨rfl, rfl⟩
        go_wp2_with fail
        go_ret
        exact ⟨rfl, rfl⟩
set_option maxHeartbeats 2000000 in
set_option maxRecDepth 100000 in
theorem checkList_any {W : World} {B n m : Nat} {D : LkB} {v : Nat → Int} {F : LkF} (h : PoolAt W B n m D v F) (l : Int) :
    Calls Try.prog 41 #[.pointer (some ⟨B, 0, none⟩), .int .i64 l] W (OkEq (.int .i64 (listE m l)) W) := by
  obtain ⟨c0, c1, c2, c3, c4, c5, c6⟩ := h.cells
  have CM := Lib.hid (isMade_any h)
  have e : listE m l = if l < 0 ∨ (m : Int) ≤ l then 7 else 0 := rfl
  generalize listE m l = r at e ⊢
  clear h
  by_cases h1 : l < 0
  · rw [if_pos (.inl h1)] at e
    subst e
    go_enter Try.func41, Try.ntmps41
    go_wp2_with fail
    refine CM.out.mono ?_
    rintro e w1 ⟨rfl, rfl⟩
    go_wp2_with fail
    go_ret
    exact ⟨rfl, rfl⟩
  · by_cases h2 : (m : Int) ≤ l
    · rw [if_pos (.inr h2)] at e
      subst e
      go_enter Try.func41, Try.ntmps41
      go_wp2_with fail
      refine CM.out.mono ?_
      rintro e w1 ⟨rfl, rfl⟩
      go_wp2_with fail
      go_ret
      exact ⟨rfl, rfl⟩
    · rw [if_neg (by omega)] at e
      subst e
      go_enter Try.func41, Try.ntmps41
      go_wp2_with fail
      refine CM.out.mono ?_
      rintro e w1 ⟨rfl, rfl⟩
      go_wp2_with fail
      go_ret
      exact ⟨rfl, rfl⟩
/-- What a function without results leaves, that writes the pool's rows alone. -/
def PoolPost (B n m : Nat) (D : LkB) (v : Nat → Int) (F : LkF) (W : World) (e : Ending) (W' : World) : Prop := e = .returned (.tuple #[]) ∧ PoolAt W' B n m D v F ∧ BelowS D.S W.heap.size W W'
set_option maxHeartbeats 4000000 in
set_option maxRecDepth 100000 in
theorem tie_any {W : World} {B n m : Nat} {D : LkB} {v : Nat → Int} {F : LkF} (h : PoolAt W B n m D v F) (l : Nat) (hl : l < m) (b a : Int) (hb : SlotOr n b) (ha : SlotOr n a) :
    Calls Try.prog 75 #[.pointer (some ⟨B, 0, none⟩), .int .i64 (l : Int), .int .i64 b, .int .i64 a] W (PoolPost B n m D v (tieF F l b a) W) := by
  obtain ⟨c0, c1, c2, c3, c4, c5, c6⟩ := h.cells
  obtain ⟨d1, d2, d3, d4, d5, d6⟩ := h.apart
  have j0 : (0 : Int) ≤ l := by omega
  have j1 : (l : Int) < m := by omega
  rcases hb with rfl | ⟨bn, rfl, hbn⟩
  · rcases ha with rfl | ⟨an, rfl, han⟩
    · obtain ⟨l1, l2⟩ := h.rf.get hl
      have P1 := h.setFirst hl (-1)
      obtain ⟨g0, g1, g2, g3, g4, g5, g6⟩ := P1.cells
      obtain ⟨y0, y1⟩ := P1.ra.get hl
      have P2 := P1.setLast hl (-1)
      have et : tieF F l (-1) (-1) = _ := rfl
      have HP2 := Lib.hid (show PoolAt ((W.setCell ⟨D.f, l, none⟩ (.int .i64 (-1))).setCell ⟨D.a, l, none⟩ (.int .i64 (-1))) B n m D v (tieF F l (-1) (-1)) from by
        unfold tieF; simp only [if_pos, toNat_cast]; simpa using P2)
      have HB := Lib.hid (((BelowS.refl D.S W.heap.size W).cell (show D.S D.f from .inr (.inr (.inr (.inr (.inl rfl))))) l (.int .i64 (-1))).cell (show D.S D.a from .inr (.inr (.inr (.inr (.inr rfl))))) l (.int .i64 (-1)))
      have tb : ((-1 : Int) == -1) = true := rfl
      have ta : ((-1 : Int) == -1) = true := rfl
      clear h P1 P2 et
      go_enter Try.func75, Try.ntmps75
      go_wp2_with fail
      go_end0
      exact ⟨rfl, HP2.out, HB.out⟩
    · obtain ⟨l1, l2⟩ := h.rf.get hl
      have P1 := h.setFirst hl ((an : Nat) : Int)
      obtain ⟨g0, g1, g2, g3, g4, g5, g6⟩ := P1.cells
      obtain ⟨y0, y1⟩ := P1.rp.get han
      have P2 := P1.setPrev han (-1)
      have et : tieF F l (-1) ((an : Nat) : Int) = _ := rfl
      have HP2 := Lib.hid (show PoolAt ((W.setCell ⟨D.f, l, none⟩ (.int .i64 ((an : Nat) : Int))).setCell ⟨D.p, an, none⟩ (.int .i64 (-1))) B n m D v (tieF F l (-1) ((an : Nat) : Int)) from by
        unfold tieF; simp only [if_pos, if_neg (ne_none an), toNat_cast]; simpa using P2)
      have HB := Lib.hid (((BelowS.refl D.S W.heap.size W).cell (show D.S D.f from .inr (.inr (.inr (.inr (.inl rfl))))) l (.int .i64 ((an : Nat) : Int))).cell (show D.S D.p from .inr (.inr (.inr (.inl rfl)))) an (.int .i64 (-1)))
      have tb : ((-1 : Int) == -1) = true := rfl
      have a0 : (0 : Int) ≤ an := by omega
      have a1 : (an : Int) < n := by omega
      have ta : ((an : Int) == -1) = false := beq_eq_false_iff_ne.2 (ne_none an)
      clear h P1 P2 et
      go_enter Try.func75, Try.ntmps75
      go_wp2_with fail
      go_end0
      exact ⟨rfl, HP2.out, HB.out⟩
  · rcases ha with rfl | ⟨an, rfl, han⟩
    · obtain ⟨l1, l2⟩ := h.rn.get hbn
      have P1 := h.setNext hbn (-1)
      obtain ⟨g0, g1, g2, g3, g4, g5, g6⟩ := P1.cells
      obtain ⟨y0, y1⟩ := P1.ra.get hl
      have P2 := P1.setLast hl ((bn : Nat) : Int)
      have et : tieF F l ((bn : Nat) : Int) (-1) = _ := rfl
      have HP2 := Lib.hid (show PoolAt ((W.setCell ⟨D.n, bn, none⟩ (.int .i64 (-1))).setCell ⟨D.a, l, none⟩ (.int .i64 ((bn : Nat) : Int))) B n m D v (tieF F l ((bn : Nat) : Int) (-1)) from by
        unfold tieF; simp only [if_neg (ne_none bn), if_pos, toNat_cast]; simpa using P2)
      have HB := Lib.hid (((BelowS.refl D.S W.heap.size W).cell (show D.S D.n from .inr (.inr (.inl rfl))) bn (.int .i64 (-1))).cell (show D.S D.a from .inr (.inr (.inr (.inr (.inr rfl))))) l (.int .i64 ((bn : Nat) : Int)))
      have b0 : (0 : Int) ≤ bn := by omega
      have b1 : (bn : Int) < n := by omega
      have tb : ((bn : Int) == -1) = false := beq_eq_false_iff_ne.2 (ne_none bn)
      have ta : ((-1 : Int) == -1) = true := rfl
      clear h P1 P2 et
      go_enter Try.func75, Try.ntmps75
      go_wp2_with fail
      go_end0
      exact ⟨rfl, HP2.out, HB.out⟩
    · obtain ⟨l1, l2⟩ := h.rn.get hbn
      have P1 := h.setNext hbn ((an : Nat) : Int)
      obtain ⟨g0, g1, g2, g3, g4, g5, g6⟩ := P1.cells
      obtain ⟨y0, y1⟩ := P1.rp.get han
      have P2 := P1.setPrev han ((bn : Nat) : Int)
      have et : tieF F l ((bn : Nat) : Int) ((an : Nat) : Int) = _ := rfl
      have HP2 := Lib.hid (show PoolAt ((W.setCell ⟨D.n, bn, none⟩ (.int .i64 ((an : Nat) : Int))).setCell ⟨D.p, an, none⟩ (.int .i64 ((bn : Nat) : Int))) B n m D v (tieF F l ((bn : Nat) : Int) ((an : Nat) : Int)) from by
        unfold tieF; simp only [if_neg (ne_none bn), if_neg (ne_none an), toNat_cast]; simpa using P2)
      have HB := Lib.hid (((BelowS.refl D.S W.heap.size W).cell (show D.S D.n from .inr (.inr (.inl rfl))) bn (.int .i64 ((an : Nat) : Int))).cell (show D.S D.p from .inr (.inr (.inr (.inl rfl)))) an (.int .i64 ((bn : Nat) : Int)))
      have b0 : (0 : Int) ≤ bn := by omega
      have b1 : (bn : Int) < n := by omega
      have tb : ((bn : Int) == -1) = false := beq_eq_false_iff_ne.2 (ne_none bn)
      have a0 : (0 : Int) ≤ an := by omega
      have a1 : (an : Int) < n := by omega
      have ta : ((an : Int) == -1) = false := beq_eq_false_iff_ne.2 (ne_none an)
      clear h P1 P2 et
      go_enter Try.func75, Try.ntmps75
      go_wp2_with fail
      go_end0
      exact ⟨rfl, HP2.out, HB.out⟩
end Go.Proofs.Ytmelcohfjonjfaa
