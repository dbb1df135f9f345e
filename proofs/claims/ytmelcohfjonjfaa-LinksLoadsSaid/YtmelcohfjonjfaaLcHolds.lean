/- links: listHolds. -/
import Derived.Test.YtmelcohfjonjfaaLcSlot
import Derived.Test.YtmelcohfjonjfaaLcMath
import Derived.Deep.QuietTactic
namespace Go.Proofs.Ytmelcohfjonjfaa
open Go.RowKit

/-- A row of truth values. -/
def RowB (W : World) (g n : Nat) (M : Nat → Bool) : Prop := ∃ cur, W.heap[g]? = some (.cells cur 4 (0, 0)) ∧ n ≤ cur.size ∧ ∀ j, j < n → cur[j]? = some (.bool (M j))
theorem RowB.get {W : World} {g n : Nat} {M : Nat → Bool} (h : RowB W g n M) {j : Nat} (hj : j < n) : W.cell? ⟨g, j, none⟩ = some (.bool (M j)) ∧ W.frozen? ⟨g, j, none⟩ = false := by
  obtain ⟨cur, h1, _, h3⟩ := h
  exact ⟨row_cell h1 (h3 j hj), row_free h1⟩
theorem RowB.set {W : World} {g n : Nat} {M : Nat → Bool} (h : RowB W g n M) {j : Nat} (b : Bool) : RowB (W.setCell ⟨g, j, none⟩ (.bool b)) g n (fun x => if x = j then b else M x) := by
  obtain ⟨cur, h1, h2, h3⟩ := h
  refine ⟨_, heap_set (i := j) (.bool b) h1, by simpa using h2, fun x hx => ?_⟩
  rw [Array.getElem?_setIfInBounds]
  show _ = some (Value.bool (if x = j then b else M x))
  by_cases e : j = x
  · subst e; rw [if_pos rfl, if_pos (by omega), if_pos rfl]
  · rw [if_neg e, if_neg (fun e2 : x = j => e e2.symm)]; exact h3 x hx
theorem RowB.block {W W' : World} {g n : Nat} {M : Nat → Bool} (h : RowB W g n M) (hb : W'.heap[g]? = W.heap[g]?) : RowB W' g n M := by
  obtain ⟨cur, h1, h2, h3⟩ := h
  exact ⟨cur, hb.trans h1, h2, h3⟩
theorem SlO.at {W : World} {g off n : Nat} {f : Nat → Int} (h : SlO W (some ⟨g, off, none⟩) n f) {j : Nat} (hj : j < n) : W.cell? ⟨g, off + j, none⟩ = some (.int .i64 (f j)) := by
  obtain ⟨g2, o2, e, _, hx⟩ := h j hj
  cases e
  exact hx
/-- Whoever stands at a slot that does not fit follows no list to its end. -/
theorem went_stuck {F : LkF} {i : Int} {pre : List Nat} {x : Nat} (h : Went F i pre (x : Int)) (hx : ¬ (F.list x = i ∧ F.prev x = lst pre)) : ¬ ∃ L, Went F i L (-1) := by
  rintro ⟨L, hL⟩
  rcases Nat.le_total pre.length L.length with e | e
  · obtain ⟨r, e1, h1, h2⟩ := hL.det pre _ h e
    cases r with
    | nil => have := h1 rfl; omega
    | cons y r =>
      obtain ⟨a1, a2, a3⟩ := h2 y r rfl
      obtain rfl : x = y := by omega
      exact hx ⟨a2, a3⟩
  · obtain ⟨r, e1, h1, h2⟩ := h.det L _ hL e
    cases r with
    | nil => have := h1 rfl; omega
    | cons y r => have := (h2 y r rfl).1; omega
theorem went_room {F : LkF} {i : Int} {pre : List Nat} {x n : Nat} (h : Went F i pre (x : Int)) (h1 : F.list x = i) (h2 : F.prev x = lst pre) (hl : ∀ y ∈ pre, y < n) (hx : x < n) : pre.length + 1 ≤ n := by
  have hs := (Went.step h h1 h2).nodup
  have hsub : (pre ++ [x]) ⊆ List.range n := by
    intro y hy
    rcases List.mem_append.1 hy with e | e
    · exact List.mem_range.2 (hl y e)
    · rw [List.mem_singleton.1 e]; exact List.mem_range.2 hx
  have := List.Nodup.length_le_of_subset hs (l₂ := List.range n) hsub
  simpa using this
theorem went_far {F : LkF} {i : Int} {n : Nat} (h1 : F.first i.toNat ≠ -1) (h2 : ¬ (0 ≤ F.first i.toNat ∧ F.first i.toNat < n)) : ¬ ∃ L, Went F i L (-1) ∧ ∀ x ∈ L, x < n := by
  rintro ⟨L, hL, hx⟩
  have h := hL.all.1
  cases L with
  | nil => exact h1 h
  | cons a L =>
    have : F.first i.toNat = (a : Int) := h
    have := hx a (List.mem_cons_self ..)
    omega
def HoldsPost (F : LkF) (i n gm : Nat) (M : Nat → Bool) (W : World) (e : Ending) (W' : World) : Prop :=
  ∃ (b : Bool) (L : List Nat), e = .returned (.bool b) ∧ BelowS (fun k => k = gm) W.heap.size W W' ∧ RowB W' gm n (fun x => decide (x ∈ L) || M x) ∧
    (b = true → Went F (i : Int) L (-1) ∧ F.last i = lst L ∧ ∀ x ∈ L, x < n) ∧ (b = false → ¬ Holds F n i)
theorem met_step (M : Nat → Bool) (pre : List Nat) (x : Nat) : (fun y => if y = x then true else (decide (y ∈ pre) || M y)) = (fun y => decide (y ∈ pre ++ [x]) || M y) := by
  funext y
  by_cases e : y = x
  · subst e; simp
  · rw [if_neg e]; simp [e]

set_option maxHeartbeats 8000000 in
set_option maxRecDepth 100000 in
theorem listHolds_any {W : World} {s : SP} {v : Nat → Int} {F : LkF} {gm cm : Nat} {M : Nat → Bool} (hS : ∀ V, BelowS (fun k => k = gm) W.heap.size W V → SPAt V s v F) (hm : RowB W gm s.kl M) (hgm : gm < W.heap.size) (hn : s.kn = s.kl) (hp : s.kp = s.kl) (ha : s.ka = s.kf) {i : Nat} (hi : i < s.kf) (h1l : 1 ≤ s.kl) (hk : s.kl ≤ 2000)
    (hfit : ∀ x, x < s.kl → F.list x ≠ -1 → F.next x = -1 ∨ (0 ≤ F.next x ∧ F.next x < s.kl)) :
    Calls Try.prog 74 #[s.val, .int .i64 (i : Int), .slice (some ⟨gm, 0, none⟩) s.kl cm] W (HoldsPost F i s.kl gm M W) := by
  obtain ⟨pv, pl, pn, pp, pf, pa, kv, kl, kn, kp, kf, ka, cv, cl, cn, cp, cf, ca⟩ := s
  dsimp only at *
  replace hn := hn.symm; replace hp := hp.symm; replace ha := ha.symm
  subst hn hp ha
  obtain ⟨gl, ol, rfl, _, _⟩ := (hS W (BelowS.refl _ _ _)).l 0 (by dsimp only; omega)
  obtain ⟨gn, on, rfl, _, _⟩ := (hS W (BelowS.refl _ _ _)).n 0 (by dsimp only; omega)
  obtain ⟨gp, op, rfl, _, _⟩ := (hS W (BelowS.refl _ _ _)).p 0 (by dsimp only; omega)
  obtain ⟨gf, of, rfl, _, _⟩ := (hS W (BelowS.refl _ _ _)).f i hi
  obtain ⟨ga, oa, rfl, _, _⟩ := (hS W (BelowS.refl _ _ _)).a i hi
  obtain ⟨A, hA⟩ : ∃ A : Obj, A = .cells (SP.cells ⟨pv, some ⟨gl, ol, none⟩, some ⟨gn, on, none⟩, some ⟨gp, op, none⟩, some ⟨gf, of, none⟩, some ⟨ga, oa, none⟩, kv, kl, kl, kl, kf, kf, cv, cl, cn, cp, cf, ca⟩) 39 := ⟨_, rfl⟩
  have hbb := (Below.refl W.heap.size W).alloc (Nat.le_refl _) A
  have hsz : (W.alloc A).heap.size = W.heap.size + 1 := Array.size_push ..
  have CI := Lib.hid isIndex_any
  have hK0 : (W.alloc A).heap[W.heap.size]? = some A := heap_alloc_new W A
  have hm1 : RowB (W.alloc A) gm kl M := hm.block (hbb.block _ hgm)
  -- what holds in every world of the walk
  have hQ : ∀ V, BelowS (fun k => k = gm) (W.heap.size + 1) (W.alloc A) V → SPAt V ⟨pv, some ⟨gl, ol, none⟩, some ⟨gn, on, none⟩, some ⟨gp, op, none⟩, some ⟨gf, of, none⟩, some ⟨ga, oa, none⟩, kv, kl, kl, kl, kf, kf, cv, cl, cn, cp, cf, ca⟩ v F ∧
      V.cell? ⟨W.heap.size, 1, none⟩ = some (.slice (some ⟨gl, ol, none⟩) kl cl) ∧ V.cell? ⟨W.heap.size, 2, none⟩ = some (.slice (some ⟨gn, on, none⟩) kl cn) ∧ V.cell? ⟨W.heap.size, 3, none⟩ = some (.slice (some ⟨gp, op, none⟩) kl cp) ∧ V.cell? ⟨W.heap.size, 4, none⟩ = some (.slice (some ⟨gf, of, none⟩) kf cf) ∧ V.cell? ⟨W.heap.size, 5, none⟩ = some (.slice (some ⟨ga, oa, none⟩) kf ca) := by
    intro V hV
    have e : V.heap[W.heap.size]? = some A := (hV.block _ (by omega) (by omega)).trans hK0
    subst hA
    exact ⟨hS V ((BelowS.of hbb).trans (hV.less (by omega))), row_cell e rfl, row_cell e rfl, row_cell e rfl, row_cell e rfl, row_cell e rfl⟩
  have hout : ∀ V, BelowS (fun k => k = gm) (W.heap.size + 1) (W.alloc A) V → BelowS (fun k => k = gm) W.heap.size W V := fun V hV => (BelowS.of hbb).trans (hV.less (by omega))
  obtain ⟨a, hfa⟩ : ∃ a : Int, a = F.first i := ⟨_, rfl⟩
  obtain ⟨z, hza⟩ : ∃ z : Int, z = F.last i := ⟨_, rfl⟩
  have i0 : (0 : Int) ≤ i := by omega
  have i1 : (i : Int) < kf := by omega
  obtain ⟨hs0, b1, b2, b3, b4, b5⟩ := hQ (W.alloc A) (BelowS.refl _ _ _)
  have x0 := hs0.f.at hi
  try dsimp only at x0
  rw [← hfa] at x0
  have HQ := Lib.hid hQ; have HOUT := Lib.hid hout; have HM1 := Lib.hid hm1; have HFIT := Lib.hid hfit; have HFA := Lib.hid hfa; have HZA := Lib.hid hza; have HK := Lib.hid hk; have HI := Lib.hid hi; have HGM := Lib.hid hgm
  clear hQ hout hm1 hfit hfa hza hk hi hS hm hgm hs0 hbb hsz hK0 h1l
  unfold SP.cells at hA
  dsimp only at hA
  unfold SP.val
  dsimp only [SP.cells]
  by_cases h3 : a = -1 ∨ (0 ≤ a ∧ a < kl)
  · have H3 := Lib.hid h3
    rcases h3 with h1 | h2
    · have t1 : (a != -1) = false := by rw [h1]; rfl
      clear h1
      go_enter Try.func74, Try.ntmps74
      go_wp2_with fail
      rw [← hA]
      clear hA
      have HV := Lib.hid (BelowS.of (S := fun k => k = gm) ((Below.refl (W.heap.size + 1) (W.alloc A)).drew))
      have HM2 : Hid (RowB (W.alloc A).drew gm kl M) := Lib.hid (HM1.out.block rfl)
      generalize hV0 : W.alloc A = V0 at *
      go_region
      go_wp2_with fail
      clear b1 b2 b3 b4 b5 x0 t1
      generalize V0.drew = V1 at *
      have HB : Hid (∀ wr x, BelowS (fun k => k = gm) (W.heap.size + 1) V0 wr → BelowS (fun k => k = gm) (W.heap.size + 1) V0 (wr.setCell ⟨gm, x, none⟩ (.bool true))) := Lib.hid (fun wr x h => h.cell rfl x _)
      go_loopg [7, 8] kl (fun n1 x7 x8 wr => ∃ (pre : List Nat) (c : Int), x7 = .int .i64 (lst pre) ∧ x8 = .int .i64 c ∧ Went F (i : Int) pre c ∧ (∀ y ∈ pre, y < kl) ∧ (c = -1 ∨ (0 ≤ c ∧ c < kl)) ∧ pre.length + n1 = kl ∧ BelowS (fun k => k = gm) (W.heap.size + 1) V0 wr ∧ RowB wr gm kl (fun y => decide (y ∈ pre) || M y))
      case atStart =>
        refine ⟨[], a, by go_num, by go_num, ?_, (fun y hy => by cases hy), H3.out, by simp, HV.out, ?_⟩
        · rw [HFA.out, show F.first i = F.first ((i : Int)).toNat by rw [toNat_cast]]; exact .start
        · simpa using HM2.out
      case round =>
        obtain ⟨pre, c, rfl, rfl, hw, hpl, hc, hlen, hbv, hrow⟩ := hrel
        obtain ⟨hs1, b1, b2, b3, b4, b5⟩ := HQ.out wr hbv
        have x0 := hs1.a.at HI.out
        try dsimp only at x0
        rw [← HZA.out] at x0
        obtain ⟨q, hq⟩ : ∃ q : Int, q = lst pre := ⟨_, rfl⟩
        rw [← hq]
        have HL := Lib.hid hq
        clear hq
        by_cases hc1 : c = -1
        · have t1 : (c != -1) = false := by rw [hc1]; rfl
          rw [hc1] at hw
          have HW := Lib.hid hw; have HPL := Lib.hid hpl; have HBV := Lib.hid hbv; have HROW := Lib.hid hrow
          clear hw hpl hbv hrow hc hlen hs1 hc1
          cases t2 : (z == q)
          · have T2 := Lib.hid (beq_eq_false_iff_ne.1 t2)
            go_wp2_with fail
            go_ret
            exact ⟨false, pre, rfl, HOUT.out _ HBV.out, HROW.out, (fun h => by cases h), fun _ => by
              rintro ⟨L, hL, hl, _⟩
              rw [went_one hL HW.out, ← HL.out, ← HZA.out] at hl
              exact T2.out hl⟩
          · have T2 := Lib.hid (beq_iff_eq.1 t2)
            go_wp2_with fail
            go_ret
            exact ⟨true, pre, rfl, HOUT.out _ HBV.out, HROW.out, fun _ => ⟨HW.out, by rw [← HZA.out, ← HL.out, T2.out], HPL.out⟩, fun h => by cases h⟩
        · obtain ⟨x, rfl⟩ : ∃ x : Nat, c = (x : Int) := ⟨c.toNat, by omega⟩
          have hx : x < kl := by omega
          have hx0 : (0 : Int) ≤ x := by omega
          have hx1 : (x : Int) < kl := by omega
          have t1 : ((x : Int) != -1) = true := by rw [bne_iff_ne]; omega
          have y1 := hs1.l.at hx
          have y3 := hs1.p.at hx
          obtain ⟨m0, m1⟩ := hrow.get hx
          have hb2 := HB.out wr x hbv
          obtain ⟨hs2, d1, d2, d3, d4, d5⟩ := HQ.out _ hb2
          have y2 := hs2.n.at hx
          try dsimp only at y1 y2 y3
          obtain ⟨u1, hu1⟩ : ∃ u1 : Int, u1 = F.list x := ⟨_, rfl⟩
          obtain ⟨u2, hu2⟩ : ∃ u2 : Int, u2 = F.next x := ⟨_, rfl⟩
          obtain ⟨u3, hu3⟩ : ∃ u3 : Int, u3 = F.prev x := ⟨_, rfl⟩
          rw [← hu1] at y1; rw [← hu2] at y2; rw [← hu3] at y3
          have HW := Lib.hid hw; have HPL := Lib.hid hpl; have HBV := Lib.hid hbv; have HROW := Lib.hid hrow; have HLEN := Lib.hid hlen; have HX := Lib.hid hx
          have HU1 := Lib.hid hu1; have HU2 := Lib.hid hu2; have HU3 := Lib.hid hu3; have HB2 := Lib.hid hb2
          clear hw hpl hbv hrow hc hlen hs1 hc1 hs2 hx hu1 hu2 hu3 hb2 b4 b5 d1 d3 d4 d5 x0
          have hbad : Hid (∀ h : ¬ (F.list x = i ∧ F.prev x = lst pre), HoldsPost F i kl gm M W (.returned (.bool false)) wr) := Lib.hid (fun h => ⟨false, pre, rfl, HOUT.out _ HBV.out, HROW.out, (fun h => by cases h), fun _ => by
              rintro ⟨L, hL, _⟩
              exact went_stuck HW.out h ⟨L, hL⟩⟩)
          cases t2 : (u1 != (i : Int))
          · have T2 := Lib.hid (by simpa using t2 : u1 = (i : Int))
            cases t3 : (u3 != q)
            · have T3 := Lib.hid (by simpa using t3 : u3 = q)
              have hroom : Hid (pre.length + 1 ≤ kl) := Lib.hid (went_room HW.out (by rw [← HU1.out]; exact T2.out) (by rw [← HU3.out, ← HL.out]; exact T3.out) HPL.out HX.out)
              obtain ⟨n', rfl⟩ : ∃ n', gk = n' + 1 := ⟨gk - 1, by have := hroom.out; have := HLEN.out; omega⟩
              have hrel2 : Hid (∃ (pre2 : List Nat) (c2 : Int), Value.int .i64 (x : Int) = .int .i64 (lst pre2) ∧ Value.int .i64 u2 = .int .i64 c2 ∧ Went F (i : Int) pre2 c2 ∧ (∀ y ∈ pre2, y < kl) ∧ (c2 = -1 ∨ (0 ≤ c2 ∧ c2 < kl)) ∧ pre2.length + n' = kl ∧ BelowS (fun k => k = gm) (W.heap.size + 1) V0 (wr.setCell ⟨gm, x, none⟩ (.bool true)) ∧ RowB (wr.setCell ⟨gm, x, none⟩ (.bool true)) gm kl (fun y => decide (y ∈ pre2) || M y)) := Lib.hid (by
                have e1 : F.list x = (i : Int) := by rw [← HU1.out]; exact T2.out
                refine ⟨pre ++ [x], u2, by rw [lst_append, if_neg (by simp)]; rfl, rfl, ?_, ?_, ?_, ?_, HB2.out, ?_⟩
                · rw [HU2.out]; exact .step HW.out e1 (by rw [← HU3.out, ← HL.out]; exact T3.out)
                · intro y hy
                  rcases List.mem_append.1 hy with h | h
                  · exact HPL.out y h
                  · rw [List.mem_singleton.1 h]; exact HX.out
                · rw [HU2.out]; exact HFIT.out x HX.out (by rw [e1]; omega)
                · have := HLEN.out; simp; omega
                · rw [← met_step]; exact HROW.out.set true)
              clear hbad hroom
              go_wp2_with fail
              go_roundg n'
              case measure => omega
              case rel => exact hrel2.out
            · have hp2 := Lib.hid (hbad.out (fun h => by have := HU3.out; have := HL.out; rw [bne_iff_ne] at t3; exact t3 (by rw [HU3.out, HL.out]; exact h.2)))
              go_wp2_with fail
              go_ret
              exact hp2.out
          · have hp2 := Lib.hid (hbad.out (fun h => by rw [bne_iff_ne] at t2; exact t2 (by rw [HU1.out]; exact h.1)))
            go_wp2_with fail
            go_ret
            exact hp2.out
    · have t1 : (a != -1) = true := by rw [bne_iff_ne]; omega
      have C1 := Lib.hid (fun V => CI.out V a (some ⟨gl, ol, none⟩) kl cl)
      rw [show decide (0 ≤ a ∧ a < (kl : Int)) = true from decide_eq_true h2] at C1
      clear h2
      go_enter Try.func74, Try.ntmps74
      go_wp2_with fail
      rw [← hA]
      clear hA
      have HV := Lib.hid (BelowS.of (S := fun k => k = gm) ((Below.refl (W.heap.size + 1) (W.alloc A)).drew))
      have HM2 : Hid (RowB (W.alloc A).drew gm kl M) := Lib.hid (HM1.out.block rfl)
      generalize hV0 : W.alloc A = V0 at *
      have s0 : V0.drew.cell? ⟨W.heap.size, 1, none⟩ = some (.slice (some ⟨gl, ol, none⟩) kl cl) ∧ V0.drew.cell? ⟨W.heap.size, 4, none⟩ = some (.slice (some ⟨gf, of, none⟩) kf cf) ∧ V0.drew.cell? ⟨gf, of + i, none⟩ = some (.int .i64 a) := ⟨b1, b4, x0⟩
      go_region_held3 (fun Wx => Wx.cell? ⟨W.heap.size, 1, none⟩ = some (.slice (some ⟨gl, ol, none⟩) kl cl) ∧ Wx.cell? ⟨W.heap.size, 4, none⟩ = some (.slice (some ⟨gf, of, none⟩) kf cf) ∧ Wx.cell? ⟨gf, of + i, none⟩ = some (.int .i64 a)) (first | with_reducible exact s0 | with_reducible assumption) (first | (go_at_call 78; refine (C1.out _).mono ?_; rintro e zv ⟨rfl, rfl⟩))
      go_wp2_with fail
      clear s0 C1
      clear b1 b2 b3 b4 b5 x0 t1
      generalize V0.drew = V1 at *
      have HB : Hid (∀ wr x, BelowS (fun k => k = gm) (W.heap.size + 1) V0 wr → BelowS (fun k => k = gm) (W.heap.size + 1) V0 (wr.setCell ⟨gm, x, none⟩ (.bool true))) := Lib.hid (fun wr x h => h.cell rfl x _)
      go_loopg [7, 8] kl (fun n1 x7 x8 wr => ∃ (pre : List Nat) (c : Int), x7 = .int .i64 (lst pre) ∧ x8 = .int .i64 c ∧ Went F (i : Int) pre c ∧ (∀ y ∈ pre, y < kl) ∧ (c = -1 ∨ (0 ≤ c ∧ c < kl)) ∧ pre.length + n1 = kl ∧ BelowS (fun k => k = gm) (W.heap.size + 1) V0 wr ∧ RowB wr gm kl (fun y => decide (y ∈ pre) || M y))
      case atStart =>
        refine ⟨[], a, by go_num, by go_num, ?_, (fun y hy => by cases hy), H3.out, by simp, HV.out, ?_⟩
        · rw [HFA.out, show F.first i = F.first ((i : Int)).toNat by rw [toNat_cast]]; exact .start
        · simpa using HM2.out
      case round =>
        obtain ⟨pre, c, rfl, rfl, hw, hpl, hc, hlen, hbv, hrow⟩ := hrel
        obtain ⟨hs1, b1, b2, b3, b4, b5⟩ := HQ.out wr hbv
        have x0 := hs1.a.at HI.out
        try dsimp only at x0
        rw [← HZA.out] at x0
        obtain ⟨q, hq⟩ : ∃ q : Int, q = lst pre := ⟨_, rfl⟩
        rw [← hq]
        have HL := Lib.hid hq
        clear hq
        by_cases hc1 : c = -1
        · have t1 : (c != -1) = false := by rw [hc1]; rfl
          rw [hc1] at hw
          have HW := Lib.hid hw; have HPL := Lib.hid hpl; have HBV := Lib.hid hbv; have HROW := Lib.hid hrow
          clear hw hpl hbv hrow hc hlen hs1 hc1
          cases t2 : (z == q)
          · have T2 := Lib.hid (beq_eq_false_iff_ne.1 t2)
            go_wp2_with fail
            go_ret
            exact ⟨false, pre, rfl, HOUT.out _ HBV.out, HROW.out, (fun h => by cases h), fun _ => by
              rintro ⟨L, hL, hl, _⟩
              rw [went_one hL HW.out, ← HL.out, ← HZA.out] at hl
              exact T2.out hl⟩
          · have T2 := Lib.hid (beq_iff_eq.1 t2)
            go_wp2_with fail
            go_ret
            exact ⟨true, pre, rfl, HOUT.out _ HBV.out, HROW.out, fun _ => ⟨HW.out, by rw [← HZA.out, ← HL.out, T2.out], HPL.out⟩, fun h => by cases h⟩
        · obtain ⟨x, rfl⟩ : ∃ x : Nat, c = (x : Int) := ⟨c.toNat, by omega⟩
          have hx : x < kl := by omega
          have hx0 : (0 : Int) ≤ x := by omega
          have hx1 : (x : Int) < kl := by omega
          have t1 : ((x : Int) != -1) = true := by rw [bne_iff_ne]; omega
          have y1 := hs1.l.at hx
          have y3 := hs1.p.at hx
          obtain ⟨m0, m1⟩ := hrow.get hx
          have hb2 := HB.out wr x hbv
          obtain ⟨hs2, d1, d2, d3, d4, d5⟩ := HQ.out _ hb2
          have y2 := hs2.n.at hx
          try dsimp only at y1 y2 y3
          obtain ⟨u1, hu1⟩ : ∃ u1 : Int, u1 = F.list x := ⟨_, rfl⟩
          obtain ⟨u2, hu2⟩ : ∃ u2 : Int, u2 = F.next x := ⟨_, rfl⟩
          obtain ⟨u3, hu3⟩ : ∃ u3 : Int, u3 = F.prev x := ⟨_, rfl⟩
          rw [← hu1] at y1; rw [← hu2] at y2; rw [← hu3] at y3
          have HW := Lib.hid hw; have HPL := Lib.hid hpl; have HBV := Lib.hid hbv; have HROW := Lib.hid hrow; have HLEN := Lib.hid hlen; have HX := Lib.hid hx
          have HU1 := Lib.hid hu1; have HU2 := Lib.hid hu2; have HU3 := Lib.hid hu3; have HB2 := Lib.hid hb2
          clear hw hpl hbv hrow hc hlen hs1 hc1 hs2 hx hu1 hu2 hu3 hb2 b4 b5 d1 d3 d4 d5 x0
          have hbad : Hid (∀ h : ¬ (F.list x = i ∧ F.prev x = lst pre), HoldsPost F i kl gm M W (.returned (.bool false)) wr) := Lib.hid (fun h => ⟨false, pre, rfl, HOUT.out _ HBV.out, HROW.out, (fun h => by cases h), fun _ => by
              rintro ⟨L, hL, _⟩
              exact went_stuck HW.out h ⟨L, hL⟩⟩)
          cases t2 : (u1 != (i : Int))
          · have T2 := Lib.hid (by simpa using t2 : u1 = (i : Int))
            cases t3 : (u3 != q)
            · have T3 := Lib.hid (by simpa using t3 : u3 = q)
              have hroom : Hid (pre.length + 1 ≤ kl) := Lib.hid (went_room HW.out (by rw [← HU1.out]; exact T2.out) (by rw [← HU3.out, ← HL.out]; exact T3.out) HPL.out HX.out)
              obtain ⟨n', rfl⟩ : ∃ n', gk = n' + 1 := ⟨gk - 1, by have := hroom.out; have := HLEN.out; omega⟩
              have hrel2 : Hid (∃ (pre2 : List Nat) (c2 : Int), Value.int .i64 (x : Int) = .int .i64 (lst pre2) ∧ Value.int .i64 u2 = .int .i64 c2 ∧ Went F (i : Int) pre2 c2 ∧ (∀ y ∈ pre2, y < kl) ∧ (c2 = -1 ∨ (0 ≤ c2 ∧ c2 < kl)) ∧ pre2.length + n' = kl ∧ BelowS (fun k => k = gm) (W.heap.size + 1) V0 (wr.setCell ⟨gm, x, none⟩ (.bool true)) ∧ RowB (wr.setCell ⟨gm, x, none⟩ (.bool true)) gm kl (fun y => decide (y ∈ pre2) || M y)) := Lib.hid (by
                have e1 : F.list x = (i : Int) := by rw [← HU1.out]; exact T2.out
                refine ⟨pre ++ [x], u2, by rw [lst_append, if_neg (by simp)]; rfl, rfl, ?_, ?_, ?_, ?_, HB2.out, ?_⟩
                · rw [HU2.out]; exact .step HW.out e1 (by rw [← HU3.out, ← HL.out]; exact T3.out)
                · intro y hy
                  rcases List.mem_append.1 hy with h | h
                  · exact HPL.out y h
                  · rw [List.mem_singleton.1 h]; exact HX.out
                · rw [HU2.out]; exact HFIT.out x HX.out (by rw [e1]; omega)
                · have := HLEN.out; simp; omega
                · rw [← met_step]; exact HROW.out.set true)
              clear hbad hroom
              go_wp2_with fail
              go_roundg n'
              case measure => omega
              case rel => exact hrel2.out
            · have hp2 := Lib.hid (hbad.out (fun h => by have := HU3.out; have := HL.out; rw [bne_iff_ne] at t3; exact t3 (by rw [HU3.out, HL.out]; exact h.2)))
              go_wp2_with fail
              go_ret
              exact hp2.out
          · have hp2 := Lib.hid (hbad.out (fun h => by rw [bne_iff_ne] at t2; exact t2 (by rw [HU1.out]; exact h.1)))
            go_wp2_with fail
            go_ret
            exact hp2.out
  · have hno := went_far (F := F) (i := (i : Int)) (n := kl) (by rw [toNat_cast, ← HFA.out]; omega) (by rw [toNat_cast, ← HFA.out]; omega)
    have HNO := Lib.hid hno
    have h2 : ¬ (0 ≤ a ∧ a < (kl : Int)) := by omega
    have h1 : a ≠ -1 := by omega
    clear hno h3
    have t1 : (a != -1) = true := by rw [bne_iff_ne]; exact h1
    have C1 := Lib.hid (fun V => CI.out V a (some ⟨gl, ol, none⟩) kl cl)
    rw [show decide (0 ≤ a ∧ a < (kl : Int)) = false from decide_eq_false h2] at C1
    clear h2 h1
    go_enter Try.func74, Try.ntmps74
    go_wp2_with fail
    rw [← hA]
    clear hA
    have HV := Lib.hid (BelowS.of (S := fun k => k = gm) ((Below.refl (W.heap.size + 1) (W.alloc A)).drew))
    have HM2 : Hid (RowB (W.alloc A).drew gm kl M) := Lib.hid (HM1.out.block rfl)
    generalize hV0 : W.alloc A = V0 at *
    have s0 : V0.drew.cell? ⟨W.heap.size, 1, none⟩ = some (.slice (some ⟨gl, ol, none⟩) kl cl) ∧ V0.drew.cell? ⟨W.heap.size, 4, none⟩ = some (.slice (some ⟨gf, of, none⟩) kf cf) ∧ V0.drew.cell? ⟨gf, of + i, none⟩ = some (.int .i64 a) := ⟨b1, b4, x0⟩
    go_region_held3 (fun Wx => Wx.cell? ⟨W.heap.size, 1, none⟩ = some (.slice (some ⟨gl, ol, none⟩) kl cl) ∧ Wx.cell? ⟨W.heap.size, 4, none⟩ = some (.slice (some ⟨gf, of, none⟩) kf cf) ∧ Wx.cell? ⟨gf, of + i, none⟩ = some (.int .i64 a)) (first | with_reducible exact s0 | with_reducible assumption) (first | (go_at_call 78; refine (C1.out _).mono ?_; rintro e zv ⟨rfl, rfl⟩))
    go_wp2_with fail
    clear s0 C1
    go_ret
    exact ⟨false, [], rfl, HOUT.out _ HV.out, by simpa using HM2.out, (fun h => by cases h), fun _ => by
      rintro ⟨L, hL, _, hx⟩
      exact HNO.out ⟨L, hL, hx⟩⟩
end Go.Proofs.Ytmelcohfjonjfaa
