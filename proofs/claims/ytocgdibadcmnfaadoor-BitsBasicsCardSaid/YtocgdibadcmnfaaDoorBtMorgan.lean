/- BitsMorgan: plain facts, and the boxes of its variables. -/
import Derived.Test.YtocgdibadcmnfaaDoorBtJoin
import Derived.Test.YtocgdibadcmnfaaDoorBtRCheck
import Derived.Test.YtocgdibadcmnfaaDoorBtAwake
namespace Go.Proofs.YtocgdibadcmnfaaDoor
open Go.RowKit Go.Shelf

theorem joinR_in {m : Nat} {A B : List Nat} (g : Bool → Bool → Bool) (ha : Valid m A) (hb : Valid m B) : joinR g m A m B = ((m, packR m fun i => g (bitN A i) (bitN B i)), 0) := by
  unfold joinR
  rw [checkR_of ha, checkR_of hb, if_neg (by simp), if_neg (by simp), if_neg (by simp), Int.toNat_natCast]
theorem flipR_in {m : Nat} {A : List Nat} (ha : Valid m A) : flipR m A = ((m, packR m fun i => !bitN A i), 0) := by
  unfold flipR
  rw [checkR_of ha, if_neg (by simp), Int.toNat_natCast]
theorem newR_in {m : Nat} (h : m ≤ 4096) (on : Bool) : newR m on = ((m, packR m fun _ => on), 0) := by
  unfold newR
  rw [if_neg (by omega), Int.toNat_natCast]
theorem setR_in {m i j : Nat} {A : List Nat} (ha : Valid m A) (h1 : i ≤ j) (h2 : j ≤ m) (on : Bool) : setR m A i j on = ((m, packR m (runOn i j on (bitN A))), 0) := by
  unfold setR
  have : runR m A (i : Int) (j : Int) = 0 := by unfold runR; rw [checkR_of ha]; simp; omega
  rw [this, if_neg (by simp), Int.toNat_natCast, Int.toNat_natCast, Int.toNat_natCast]
theorem morgan_facts {m i j : Nat} {A B : List Nat} (ha : Valid m A) (hb : Valid m B) (h1 : i ≤ j) (h2 : j ≤ m) (on : Bool) :
    ∃ P0 P U V D N R S : List Nat, joinR (fun a b => a && b) m A m B = ((m, P0), 0) ∧ flipR m P0 = ((m, P), 0) ∧ flipR m A = ((m, U), 0) ∧ flipR m B = ((m, V), 0) ∧ joinR (fun a b => a || b) m U m V = ((m, P), 0) ∧
      joinR (fun a b => a && !b) m A m B = ((m, D), 0) ∧ joinR (fun a b => a && b) m A m V = ((m, D), 0) ∧ flipR m U = ((m, A), 0) ∧ newR m false = ((m, N), 0) ∧ setR m N i j true = ((m, R), 0) ∧ setR m A i j on = ((m, S), 0) ∧
      joinR (fun a b => a && !b) m A m R = ((m, packR m fun x => bitN A x && !bitN R x), 0) ∧ (on = false → packR m (fun x => bitN A x && !bitN R x) = S) ∧ (on = true → joinR (fun a b => a || b) m A m R = ((m, S), 0)) := by
  have hm := ha.le
  have pv := fun f => pack_valid hm f
  have pb := fun f x (hx : x < m) => show bitN (packR m f) x = f x by rw [pack_bit]; simp [hx]
  refine ⟨packR m fun x => bitN A x && bitN B x, packR m fun x => !(bitN A x && bitN B x), packR m fun x => !bitN A x, packR m fun x => !bitN B x, packR m fun x => bitN A x && !bitN B x, packR m fun _ => false, packR m (runOn i j true (bitN (packR m fun _ => false))), packR m (runOn i j on (bitN A)),
    joinR_in _ ha hb, ?_, flipR_in ha, flipR_in hb, ?_, joinR_in _ ha hb, ?_, ?_, newR_in hm false, setR_in (pv _) h1 h2 true, setR_in ha h1 h2 on, joinR_in _ ha (pv _), ?_, ?_⟩
  · rw [flipR_in (pv _), pack_congr (fun x hx => by rw [pb _ x hx])]
  · rw [joinR_in _ (pv _) (pv _), pack_congr (fun x hx => by rw [pb _ x hx, pb _ x hx, ← Bool.not_and])]
  · rw [joinR_in _ ha (pv _), pack_congr (fun x hx => by rw [pb _ x hx])]
  · have e : A = packR m fun x => !bitN (packR m fun x => !bitN A x) x := valid_pack ha fun x hx => by rw [pb _ x hx, Bool.not_not]
    rw [flipR_in (pv _), ← e]
  · rintro rfl
    refine pack_congr fun x hx => ?_
    rw [pb _ x hx]
    unfold runOn
    by_cases h : i ≤ x ∧ x < j
    · rw [if_pos h, if_pos h]; simp
    · rw [if_neg h, if_neg h, pb _ x hx]; simp
  · rintro rfl
    have e : (packR m fun x => bitN A x || bitN (packR m (runOn i j true (bitN (packR m fun _ => false)))) x) = packR m (runOn i j true (bitN A)) := by
      refine pack_congr fun x hx => ?_
      rw [pb _ x hx]
      unfold runOn
      by_cases h : i ≤ x ∧ x < j
      · rw [if_pos h, if_pos h]; simp
      · rw [if_neg h, if_neg h, pb _ x hx]; simp
    rw [joinR_in _ ha (pv _), e]
/-- Good bits of this length and with these words are returned. -/
def BtOk (m : Nat) (L : List Nat) (w : World) (e : Ending) (w' : World) : Prop := ∃ p cap, e = .returned (.tuple #[.agg #[.int .i64 (m : Int), .slice p L.length cap], .int .i64 0]) ∧ WordsAt w' p L ∧ Below w.heap.size w w'
def BtOkN (m : Nat) (L : List Nat) (w : World) (e : Ending) (w' : World) : Prop := ∃ p cap, e = .returned (.tuple #[.agg #[.int .i64 (m : Int), .slice p L.length cap], .int .i64 0]) ∧ WordsAt w' p L ∧ NewAt w.heap.size p ∧ Below w.heap.size w w'
theorem btOk {r : (Nat × List Nat) × Int} {m : Nat} {L : List Nat} (h : r = ((m, L), 0)) {w w' : World} {e : Ending} (hp : BtPost r w e w') : BtOk m L w e w' := by subst h; exact hp
theorem btOkN {r : (Nat × List Nat) × Int} {m : Nat} {L : List Nat} (h : r = ((m, L), 0)) {w w' : World} {e : Ending} (hp : BtNew r w e w') : BtOkN m L w e w' := by subst h; exact hp
/-- A new variable. -/
theorem newBox (w : World) (u v : Value) (t : TypeId) : Below w.heap.size w (w.alloc (.cells #[u, v] t)) ∧ Res2 (w.alloc (.cells #[u, v] t)) w.heap.size u v :=
  ⟨(Below.refl _ _).alloc (Nat.le_refl _) _, Res2.new w u v t⟩
theorem newBox_then {w w' : World} {u v : Value} {t : TypeId} (hb : Below (w.alloc (.cells #[u, v] t)).heap.size (w.alloc (.cells #[u, v] t)) w') : Below w.heap.size w w' ∧ Res2 w' w.heap.size u v :=
  ⟨(newBox w u v t).1.trans (hb.mono (newBox w u v t).1.size), (newBox w u v t).2.below hb⟩
/-- A store into a variable that there was. -/
theorem oldBox {w : World} {B : Nat} {x y : Value} (h : Res2 w B x y) (u v : Value) : Below B w ((w.setCell ⟨B, 0, none⟩ u).setCell ⟨B, 1, none⟩ v) ∧ Res2 ((w.setCell ⟨B, 0, none⟩ u).setCell ⟨B, 1, none⟩ v) B u v := by
  refine ⟨set2B (Below.refl _ _) (Nat.le_refl _) _ _, ?_, ?_, ?_, ?_, by have := h.lt; simpa [World.setCell] using this⟩
  · rw [World.cell?_setCell_other _ _ _ _ (by simp)]
    exact World.cell?_setCell_same' _ _ _ (by rw [h.k0]; rfl)
  · refine World.cell?_setCell_same' _ _ _ ?_
    rw [World.cell?_setCell_other _ _ _ _ (by simp), h.k1]; rfl
  · rw [World.frozen?_setCell, World.frozen?_setCell]; exact h.f0
  · rw [World.frozen?_setCell, World.frozen?_setCell]; exact h.f1
theorem oldBox_then {w w' : World} {B : Nat} {x y u v : Value} (h : Res2 w B x y) (hb : Below ((w.setCell ⟨B, 0, none⟩ u).setCell ⟨B, 1, none⟩ v).heap.size ((w.setCell ⟨B, 0, none⟩ u).setCell ⟨B, 1, none⟩ v) w') :
    Below B w w' ∧ Res2 w' B u v :=
  ⟨(oldBox h u v).1.trans (hb.mono (Nat.le_trans (Nat.le_of_lt h.lt) (oldBox h u v).1.size)), (oldBox h u v).2.below hb⟩
theorem Res2.under {W W' : World} {B b : Nat} {x y : Value} (h : Res2 W B x y) (hb : Below b W W') (hB : B < b) : Res2 W' B x y :=
  ⟨(hb.cell (p := ⟨B, 0, none⟩) hB).trans h.k0, (hb.cell (p := ⟨B, 1, none⟩) hB).trans h.k1, (hb.frozen (p := ⟨B, 0, none⟩) hB).trans h.f0, (hb.frozen (p := ⟨B, 1, none⟩) hB).trans h.f1, Nat.lt_of_lt_of_le h.lt hb.size⟩
/-- The box of a part. -/
structure Res3 (W : World) (B : Nat) (x y z : Value) : Prop where
  k0 : W.cell? ⟨B, 0, none⟩ = some x
  k1 : W.cell? ⟨B, 1, none⟩ = some y
  k2 : W.cell? ⟨B, 2, none⟩ = some z
  lt : B < W.heap.size
theorem Res3.under {W W' : World} {B b : Nat} {x y z : Value} (h : Res3 W B x y z) (hb : Below b W W') (hB : B < b) : Res3 W' B x y z :=
  ⟨(hb.cell (p := ⟨B, 0, none⟩) hB).trans h.k0, (hb.cell (p := ⟨B, 1, none⟩) hB).trans h.k1, (hb.cell (p := ⟨B, 2, none⟩) hB).trans h.k2, Nat.lt_of_lt_of_le h.lt hb.size⟩
theorem WordsAt.under {W W' : World} {p : Option Addr} {ws : List Nat} {b : Nat} (h : WordsAt W p ws) (hb : Below b W W') (hp : ∀ g off, 0 < ws.length → p = some ⟨g, off, none⟩ → g < b) : WordsAt W' p ws :=
  ⟨h.len, h.lt, fun h0 => by
    obtain ⟨g, off, e, hg, hc⟩ := h.at_ h0
    exact ⟨g, off, e, Nat.lt_of_lt_of_le hg hb.size, fun j hj => (hb.cell (p := ⟨g, off + j, none⟩) (hp g off h0 e)).trans (hc j hj)⟩⟩
theorem WordsAt.block_lt {W : World} {p : Option Addr} {ws : List Nat} (h : WordsAt W p ws) : ∀ g off, 0 < ws.length → p = some ⟨g, off, none⟩ → g < W.heap.size := fun g off h0 e => by
  obtain ⟨g', off', e', hg, _⟩ := h.at_ h0
  rw [e] at e'; cases e'; exact hg
end Go.Proofs.YtocgdibadcmnfaaDoor
