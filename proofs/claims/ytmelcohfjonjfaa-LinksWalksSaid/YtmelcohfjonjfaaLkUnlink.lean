/- links: unlink. -/
import Derived.Test.YtmelcohfjonjfaaLkLink
import Derived.Deep.RegionWith
import Derived.Deep.RegionHeld3
namespace Go.Proofs.Ytmelcohfjonjfaa
open Go.RowKit

theorem PoolAt.block {W W' : World} {B n m : Nat} {D : LkB} {v : Nat → Int} {F : LkF} (h : PoolAt W B n m D v F) (hb : ∀ k, k = B ∨ D.S k → W'.heap[k]? = W.heap[k]?) : PoolAt W' B n m D v F :=
  ⟨(hb _ (.inl rfl)).trans h.box, h.rv.block (hb _ (.inr (.inl rfl))), h.rl.block (hb _ (.inr (.inr (.inl rfl)))), h.rn.block (hb _ (.inr (.inr (.inr (.inl rfl))))), h.rp.block (hb _ (.inr (.inr (.inr (.inr (.inl rfl)))))), h.rf.block (hb _ (.inr (.inr (.inr (.inr (.inr (.inl rfl))))))), h.ra.block (hb _ (.inr (.inr (.inr (.inr (.inr (.inr rfl))))))), h.ne, h.nn, h.mm, h.kv⟩
theorem PoolAt.heap {W W' : World} {B n m : Nat} {D : LkB} {v : Nat → Int} {F : LkF} (h : PoolAt W B n m D v F) (hb : W'.heap = W.heap) : PoolAt W' B n m D v F := h.block (fun _ _ => by rw [hb])
def UnC (B : Nat) (D : LkB) (n x l : Nat) (a b : Int) (W : World) : Prop :=
  W.cell? ⟨B, 2, none⟩ = some (.slice (some ⟨D.l, 0, none⟩) n D.cl) ∧ W.cell? ⟨B, 3, none⟩ = some (.slice (some ⟨D.n, 0, none⟩) n D.cn) ∧ W.cell? ⟨B, 4, none⟩ = some (.slice (some ⟨D.p, 0, none⟩) n D.cp) ∧
  W.cell? ⟨D.l, x, none⟩ = some (.int .i64 (l : Int)) ∧ W.cell? ⟨D.p, x, none⟩ = some (.int .i64 a) ∧ W.cell? ⟨D.n, x, none⟩ = some (.int .i64 b)
theorem keepU {W : World} {B n m : Nat} {D : LkB} {v : Nat → Int} {F : LkF} {x l : Nat} {a b : Int} (h : PoolAt W B n m D v (tieF F l a b)) (hx : x < n) (el : F.list x = (l : Int)) (ep : F.prev x = a) (en : F.next x = b)
    (ha : SlotOr n a) (hb : SlotOr n b) (hax : a ≠ (x : Int)) (hbx : b ≠ (x : Int)) : UnC B D n x l a b W := by
  obtain ⟨c0, c1, c2, c3, c4, c5, c6⟩ := h.cells
  refine ⟨c2, c3, c4, ?_, ?_, ?_⟩
  · rw [(h.rl.get hx).1]; show some (Value.int .i64 (F.list x)) = _; rw [el]
  · rw [(h.rp.get hx).1]
    have : (tieF F l a b).prev x = a := by
      unfold tieF
      simp only
      rcases hb with rfl | ⟨k, rfl, hk⟩
      · rw [if_pos rfl, ep]
      · rw [if_neg (ne_none k), toNat_cast, updF_other (fun e => hbx (by rw [e])), ep]
    rw [this]
  · rw [(h.rn.get hx).1]
    have : (tieF F l a b).next x = b := by
      unfold tieF
      simp only
      rcases ha with rfl | ⟨k, rfl, hk⟩
      · rw [if_pos rfl, en]
      · rw [if_neg (ne_none k), toNat_cast, updF_other (fun e => hax (by rw [e])), en]
    rw [this]
set_option maxHeartbeats 4000000 in
set_option maxRecDepth 100000 in
theorem unlink_any {W : World} {B n m : Nat} {D : LkB} {v : Nat → Int} {F : LkF} (h : PoolAt W B n m D v F) (x : Nat) (hx : x < n) (l : Nat) (hl : l < m) (el : F.list x = (l : Int)) (hp : SlotOr n (F.prev x)) (hn : SlotOr n (F.next x)) (hpx : F.prev x ≠ (x : Int)) (hnx : F.next x ≠ (x : Int)) :
    Calls Try.prog 63 #[.pointer (some ⟨B, 0, none⟩), .int .i64 (x : Int)] W (PoolPost B n m D v (unlinkF F x) W) := by
  obtain ⟨c0, c1, c2, c3, c4, c5, c6⟩ := h.cells
  have x0 : (0 : Int) ≤ x := by omega
  have x1 : (x : Int) < n := by omega
  obtain ⟨l1, l2⟩ := h.rl.get hx
  obtain ⟨n1, n2⟩ := h.rn.get hx
  obtain ⟨p1, p2⟩ := h.rp.get hx
  have eu : unlinkF F x = (let G := tieF F l (F.prev x) (F.next x); { G with list := updF G.list x (-1), prev := updF G.prev x (-1), next := updF G.next x (-1) }) := by
    unfold unlinkF; rw [el, toNat_cast]
  have T1 := Lib.hid (tie_any (h.heap (W' := W.drew) rfl) l hl (F.prev x) (F.next x) hp hn)
  obtain ⟨a, ea⟩ : ∃ a, a = F.prev x := ⟨_, rfl⟩
  obtain ⟨b, eb⟩ : ∃ b, b = F.next x := ⟨_, rfl⟩
  rw [← ea] at p1 T1 hp hpx eu
  rw [← eb] at n1 T1 hn hnx eu
  rw [eu]
  rw [el] at l1
  have KEEP : Hid (∀ w1, PoolAt w1 B n m D v (tieF F l a b) → UnC B D n x l a b w1) := Lib.hid (fun w1 h1 => keepU h1 hx el ea.symm eb.symm hp hn hpx hnx)
  have s0 : UnC B D n x l a b W.drew := ⟨c2, c3, c4, l1, p1, n1⟩
  have HX := Lib.hid hx
  generalize tieF F l a b = G at T1 KEEP ⊢
  clear h hx hl eu el hp hn hpx hnx ea eb c0 c1 c2 c3 c4 c5 c6 l1 l2 n1 n2 p1 p2
  unfold UnC at s0 KEEP
  go_enter Try.func63, Try.ntmps63
  go_wp2_with fail
  go_region_held3 (fun W => W.cell? ⟨B, 2, none⟩ = some (.slice (some ⟨D.l, 0, none⟩) n D.cl) ∧ W.cell? ⟨B, 3, none⟩ = some (.slice (some ⟨D.n, 0, none⟩) n D.cn) ∧ W.cell? ⟨B, 4, none⟩ = some (.slice (some ⟨D.p, 0, none⟩) n D.cp) ∧
      W.cell? ⟨D.l, x, none⟩ = some (.int .i64 (l : Int)) ∧ W.cell? ⟨D.p, x, none⟩ = some (.int .i64 a) ∧ W.cell? ⟨D.n, x, none⟩ = some (.int .i64 b)) (first | exact s0 | exact KEEP.out _ (by assumption)) (first
    | (go_at_call 75; refine T1.out.mono ?_; rintro e w1 ⟨rfl, P2, B1⟩))
  all_goals
    obtain ⟨p3, p4⟩ := P2.rp.get HX.out
    obtain ⟨n3, n4⟩ := P2.rn.get HX.out
    obtain ⟨l3, l4⟩ := P2.rl.get HX.out
    have Q2 := P2.heap (W' := w1.drew) rfl
    obtain ⟨c0, c1, c2, c3, c4, c5, c6⟩ := Q2.cells
    obtain ⟨l1, l2⟩ := Q2.rl.get HX.out
    have Q3 := Q2.setList HX.out (-1)
    obtain ⟨p1, p2⟩ := Q3.rp.get HX.out
    have Q4 := Q3.setPrev HX.out (-1)
    obtain ⟨n1, n2⟩ := Q4.rn.get HX.out
    have Q5 := Lib.hid (Q4.setNext HX.out (-1))
    obtain ⟨d1, d2, d3, d4, d5, d6⟩ := Q2.apart
    have HB1 := Lib.hid B1
    clear P2 B1 Q2 Q3 Q4 s0 T1 KEEP
    go_wp2_with fail
    go_region
    all_goals
      go_end0
      have b1 : BelowS D.S W.heap.size W w1 := (BelowS.of ((Below.refl W.heap.size W).drew)).to HB1.out (Nat.le_refl _)
      have b2 := b1.trans (BelowS.of ((Below.refl W.heap.size w1).drew))
      have b3 := ((b2.cell (show D.S D.l from .inr (.inl rfl)) x (.int .i64 (-1))).cell (show D.S D.p from .inr (.inr (.inr (.inl rfl)))) x (.int .i64 (-1))).cell (show D.S D.n from .inr (.inr (.inl rfl))) x (.int .i64 (-1))
      exact ⟨rfl, Q5.out.heap rfl, b3⟩
end Go.Proofs.Ytmelcohfjonjfaa
