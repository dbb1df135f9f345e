/- links: SameInts, Same, at equal states. -/
import Derived.Test.YtmelcohfjonjfaaLkSaved
import Derived.BigQuiet
namespace Go.Proofs.Ytmelcohfjonjfaa
open Go.RowKit

theorem drewB (b n : Nat) (W : World) : Below b W (W.drewN n) := ⟨rfl, rfl, rfl, Nat.le_refl _, fun _ _ => rfl⟩
def TruePost (w : World) (e : Ending) (w' : World) : Prop := e = .returned (.bool true) ∧ Below w.heap.size w w'
/-- A slice that holds n numbers. -/
def SlF (W : World) (v : Value) (n : Nat) (f : Nat → Int) : Prop := ∃ (p : Option Addr) (c : Nat), v = .slice p n c ∧ ∀ j, j < n → ∃ g : Nat, p = some ⟨g, 0, none⟩ ∧ g < W.heap.size ∧ W.cell? ⟨g, j, none⟩ = some (.int .i64 (f j))
theorem SlF.below {W W' : World} {v : Value} {n : Nat} {f : Nat → Int} (h : SlF W v n f) (hb : Below W.heap.size W W') : SlF W' v n f := by
  obtain ⟨p, c, rfl, hc⟩ := h
  refine ⟨p, c, rfl, fun j hj => ?_⟩
  obtain ⟨g, e, hg, hx⟩ := hc j hj
  exact ⟨g, e, Nat.lt_of_lt_of_le hg hb.size, (hb.cell hg).trans hx⟩
theorem SlF.congr {W : World} {v : Value} {n : Nat} {f f' : Nat → Int} (h : SlF W v n f) (e : ∀ j, j < n → f j = f' j) : SlF W v n f' := by
  obtain ⟨p, c, rfl, hc⟩ := h
  exact ⟨p, c, rfl, fun j hj => by rw [← e j hj]; exact hc j hj⟩
theorem RowF.sl {W : World} {g n c : Nat} {f : Nat → Int} (h : RowF W g n f) : SlF W (.slice (some ⟨g, 0, none⟩) n c) n f := ⟨_, _, rfl, fun _ hj => ⟨g, rfl, h.lt, (h.get hj).1⟩⟩
set_option maxHeartbeats 1000000 in
set_option maxRecDepth 100000 in
theorem sameInts_any {w : World} {a b : Value} {n : Nat} {f : Nat → Int} (ha : SlF w a n f) (hb : SlF w b n f) (hl : n ≤ 100000) :
    Calls Try.prog 26 #[a, b] w (TruePost w) := by
  obtain ⟨p, c, rfl, hp⟩ := ha
  obtain ⟨q, d, rfl, hq⟩ := hb
  have HP := Lib.hid hp; have HQ := Lib.hid hq; have HL := Lib.hid hl
  have t0 : ((n : Int) != (n : Int)) = false := by simp
  clear hp hq hl
  go_enter Try.func26, Try.ntmps26
  go_wp2_with fail
  go_loopg [5] n (fun n1 i wr => ∃ k : Nat, k + n1 = n ∧ i = .int .i64 k ∧ Below w.heap.size w wr)
  case atStart => exact ⟨0, by omega, by go_num, Below.refl _ _⟩
  case round =>
    obtain ⟨k, hkn, rfl, hbw⟩ := hrel
    have HB := Lib.hid hbw
    clear hbw
    by_cases hlt : k < n
    · obtain ⟨n', rfl⟩ : ∃ n', gk = n' + 1 := ⟨gk - 1, by omega⟩
      obtain ⟨g, rfl, hg, c0⟩ := HP.out k hlt
      obtain ⟨g2, rfl, hg2, d0⟩ := HQ.out k hlt
      have c0 := (HB.out.cell hg).trans c0
      have d0 := (HB.out.cell hg2).trans d0
      generalize f k = x at c0 d0
      have i1 : (k : Int) < n := by omega
      have k0 : (0 : Int) ≤ k := by omega
      have t1 : ((x : Int) != (x : Int)) = false := by simp
      have w1 : IntKind.i64.wrap ((k : Int) + 1) = (k : Int) + 1 := IntWalk.i64_in _ (by have := HL.out; omega)
      go_wp2_with fail
      go_quiet (fail)
      go_wp2_with fail
      go_roundg n'
      case measure => omega
      case rel => exact ⟨k + 1, by omega, by go_num, HB.out.trans (drewB _ _ _)⟩
    · obtain rfl : k = n := by omega
      go_wp2_with fail
      go_ret
      exact ⟨rfl, HB.out⟩
/-- Six slices that hold a state. -/
structure StF (W : World) (v : Value) (n m : Nat) (x : Nat → Int) (F : LkF) : Prop where
  ex : ∃ a0 a1 a2 a3 a4 a5 : Value, v = .agg #[a0, a1, a2, a3, a4, a5] ∧ SlF W a0 n x ∧ SlF W a1 n F.list ∧ SlF W a2 n F.next ∧ SlF W a3 n F.prev ∧ SlF W a4 m F.first ∧ SlF W a5 m F.last
theorem RowsAt.st {W : World} {n m : Nat} {D : LkB} {v : Nat → Int} {F : LkF} (h : RowsAt W n m D v F) : StF W (stV n m D) n m v F :=
  ⟨⟨_, _, _, _, _, _, rfl, h.rv.sl, h.rl.sl, h.rn.sl, h.rp.sl, h.rf.sl, h.ra.sl⟩⟩
theorem StF.below {W W' : World} {s : Value} {n m : Nat} {v : Nat → Int} {F : LkF} (h : StF W s n m v F) (hb : Below W.heap.size W W') : StF W' s n m v F := by
  obtain ⟨a0, a1, a2, a3, a4, a5, e, h0, h1, h2, h3, h4, h5⟩ := h.ex
  exact ⟨⟨a0, a1, a2, a3, a4, a5, e, h0.below hb, h1.below hb, h2.below hb, h3.below hb, h4.below hb, h5.below hb⟩⟩
/-- What the links of the same lists are is the same. -/
theorem rep_eq {n m : Nat} {of : Nat → List Nat} {F G : LkF} (h : Rep n m of F) (k : Rep n m of G) : (∀ j, j < n → F.list j = G.list j ∧ F.next j = G.next j ∧ F.prev j = G.prev j) ∧ (∀ j, j < m → F.first j = G.first j ∧ F.last j = G.last j) := by
  refine ⟨fun j hj => ?_, fun j hj => ?_⟩
  · by_cases hx : ∃ i, i < m ∧ j ∈ of i
    · obtain ⟨i, hi, hm⟩ := hx
      obtain ⟨a1, a2, a3⟩ := h.used i hi j hm
      obtain ⟨b1, b2, b3⟩ := k.used i hi j hm
      exact ⟨a1.trans b1.symm, a2.trans b2.symm, a3.trans b3.symm⟩
    · have hf : ∀ i, i < m → j ∉ of i := fun i hi hm => hx ⟨i, hi, hm⟩
      obtain ⟨a1, a2, a3⟩ := h.free j hj hf
      obtain ⟨b1, b2, b3⟩ := k.free j hj hf
      exact ⟨a1.trans b1.symm, a2.trans b2.symm, a3.trans b3.symm⟩
  · obtain ⟨a1, a2⟩ := h.ends j hj
    obtain ⟨b1, b2⟩ := k.ends j hj
    exact ⟨a1.trans b1.symm, a2.trans b2.symm⟩
theorem StF.turn {W : World} {s : Value} {n m : Nat} {v v' : Nat → Int} {F G : LkF} {of : Nat → List Nat} (h : StF W s n m v F) (hF : Rep n m of F) (hG : Rep n m of G) (hv : ∀ j, j < n → v j = v' j) : StF W s n m v' G := by
  obtain ⟨a0, a1, a2, a3, a4, a5, e, h0, h1, h2, h3, h4, h5⟩ := h.ex
  obtain ⟨r1, r2⟩ := rep_eq hF hG
  exact ⟨⟨a0, a1, a2, a3, a4, a5, e, h0.congr hv, h1.congr (fun j hj => (r1 j hj).1), h2.congr (fun j hj => (r1 j hj).2.1), h3.congr (fun j hj => (r1 j hj).2.2), h4.congr (fun j hj => (r2 j hj).1), h5.congr (fun j hj => (r2 j hj).2)⟩⟩
set_option maxHeartbeats 4000000 in
set_option maxRecDepth 100000 in
theorem same_any {W : World} {s t : Value} {n m : Nat} {v : Nat → Int} {F : LkF} (hs : StF W s n m v F) (ht : StF W t n m v F) (hn : n ≤ 100000) (hm : m ≤ 100000) :
    Calls Try.prog 19 #[s, t] W (TruePost W) := by
  obtain ⟨a0, a1, a2, a3, a4, a5, rfl, h0, h1, h2, h3, h4, h5⟩ := hs.ex
  obtain ⟨b0, b1, b2, b3, b4, b5, rfl, k0, k1, k2, k3, k4, k5⟩ := ht.ex
  have C0 := Lib.hid (fun V (hb : Below W.heap.size W V) => sameInts_any (h0.below hb) (k0.below hb) hn)
  have C1 := Lib.hid (fun V (hb : Below W.heap.size W V) => sameInts_any (h1.below hb) (k1.below hb) hn)
  have C2 := Lib.hid (fun V (hb : Below W.heap.size W V) => sameInts_any (h2.below hb) (k2.below hb) hn)
  have C3 := Lib.hid (fun V (hb : Below W.heap.size W V) => sameInts_any (h3.below hb) (k3.below hb) hn)
  have C4 := Lib.hid (fun V (hb : Below W.heap.size W V) => sameInts_any (h4.below hb) (k4.below hb) hm)
  have C5 := Lib.hid (fun V (hb : Below W.heap.size W V) => sameInts_any (h5.below hb) (k5.below hb) hm)
  have HA := Lib.hid (heap_alloc2_old W (.cells #[a0, a1, a2, a3, a4, a5] 39) (.cells #[b0, b1, b2, b3, b4, b5] 39))
  have HC := Lib.hid (heap_alloc2_new W (.cells #[a0, a1, a2, a3, a4, a5] 39) (.cells #[b0, b1, b2, b3, b4, b5] 39))
  have HW := Lib.hid (((Below.refl W.heap.size W).alloc (Nat.le_refl _) (.cells #[a0, a1, a2, a3, a4, a5] 39)).alloc (Nat.le_of_lt (by show W.heap.size < (W.heap.push _).size; simp)) (.cells #[b0, b1, b2, b3, b4, b5] 39))
  have HS : Hid (((W.alloc (.cells #[a0, a1, a2, a3, a4, a5] 39)).alloc (.cells #[b0, b1, b2, b3, b4, b5] 39)).heap.size = W.heap.size + 2) := Lib.hid (by show ((W.heap.push _).push _).size = _; simp)
  have HB0 := Lib.hid (Below.refl ((W.alloc (.cells #[a0, a1, a2, a3, a4, a5] 39)).alloc (.cells #[b0, b1, b2, b3, b4, b5] 39)).heap.size ((W.alloc (.cells #[a0, a1, a2, a3, a4, a5] 39)).alloc (.cells #[b0, b1, b2, b3, b4, b5] 39)))
  clear hs ht h0 h1 h2 h3 h4 h5 k0 k1 k2 k3 k4 k5 hn hm
  go_enter Try.func19, Try.ntmps19
  have p0 := row_cell (i := 0) ((HB0.out.block W.heap.size (by rw [HS.out]; omega)).trans HA.out) rfl
  have q0 := row_cell (i := 0) ((HB0.out.block (W.heap.size + 1) (by rw [HS.out]; omega)).trans HC.out) rfl
  go_wp2_with fail
  refine (C0.out _ (HW.out.trans (HB0.out.mono (by rw [HS.out]; omega)))).mono ?_
  rintro e z0 ⟨rfl, hb⟩
  have HB1 := Lib.hid (HB0.out.trans (hb.mono HB0.out.size))
  clear hb p0 q0 C0
  have p1 := row_cell (i := 1) ((HB1.out.block W.heap.size (by rw [HS.out]; omega)).trans HA.out) rfl
  have q1 := row_cell (i := 1) ((HB1.out.block (W.heap.size + 1) (by rw [HS.out]; omega)).trans HC.out) rfl
  go_wp2_with fail
  refine (C1.out _ (HW.out.trans (HB1.out.mono (by rw [HS.out]; omega)))).mono ?_
  rintro e z1 ⟨rfl, hb⟩
  have HB2 := Lib.hid (HB1.out.trans (hb.mono HB1.out.size))
  clear hb p1 q1 C1
  have p2 := row_cell (i := 2) ((HB2.out.block W.heap.size (by rw [HS.out]; omega)).trans HA.out) rfl
  have q2 := row_cell (i := 2) ((HB2.out.block (W.heap.size + 1) (by rw [HS.out]; omega)).trans HC.out) rfl
  go_wp2_with fail
  refine (C2.out _ (HW.out.trans (HB2.out.mono (by rw [HS.out]; omega)))).mono ?_
  rintro e z2 ⟨rfl, hb⟩
  have HB3 := Lib.hid (HB2.out.trans (hb.mono HB2.out.size))
  clear hb p2 q2 C2
  have p3 := row_cell (i := 3) ((HB3.out.block W.heap.size (by rw [HS.out]; omega)).trans HA.out) rfl
  have q3 := row_cell (i := 3) ((HB3.out.block (W.heap.size + 1) (by rw [HS.out]; omega)).trans HC.out) rfl
  go_wp2_with fail
  refine (C3.out _ (HW.out.trans (HB3.out.mono (by rw [HS.out]; omega)))).mono ?_
  rintro e z3 ⟨rfl, hb⟩
  have HB4 := Lib.hid (HB3.out.trans (hb.mono HB3.out.size))
  clear hb p3 q3 C3
  have p4 := row_cell (i := 4) ((HB4.out.block W.heap.size (by rw [HS.out]; omega)).trans HA.out) rfl
  have q4 := row_cell (i := 4) ((HB4.out.block (W.heap.size + 1) (by rw [HS.out]; omega)).trans HC.out) rfl
  go_wp2_with fail
  refine (C4.out _ (HW.out.trans (HB4.out.mono (by rw [HS.out]; omega)))).mono ?_
  rintro e z4 ⟨rfl, hb⟩
  have HB5 := Lib.hid (HB4.out.trans (hb.mono HB4.out.size))
  clear hb p4 q4 C4
  have p5 := row_cell (i := 5) ((HB5.out.block W.heap.size (by rw [HS.out]; omega)).trans HA.out) rfl
  have q5 := row_cell (i := 5) ((HB5.out.block (W.heap.size + 1) (by rw [HS.out]; omega)).trans HC.out) rfl
  go_wp2_with fail
  refine (C5.out _ (HW.out.trans (HB5.out.mono (by rw [HS.out]; omega)))).mono ?_
  rintro e z5 ⟨rfl, hb⟩
  have HB6 := Lib.hid (HB5.out.trans (hb.mono HB5.out.size))
  clear hb p5 q5 C5
  go_wp2_with fail
  go_ret
  exact ⟨rfl, HW.out.trans (HB6.out.mono (by rw [HS.out]; omega))⟩
end Go.Proofs.Ytmelcohfjonjfaa
