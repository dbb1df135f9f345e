/- links: the law's number. links: the law LinksBroken. -/
import Derived.Test.YtmelcohfjonjfaaLcLoad
import Derived.Deep.RegionHeld3
import Derived.Test.YtmelcohfjonjfaaLsSave
import Derived.Test.YtmelcohfjonjfaaLjMade
namespace Go.Proofs.Ytmelcohfjonjfaa
open Go.RowKit

def gOf (D : LkB) (r : Nat) : Nat := if r = 0 then D.l else if r = 1 then D.n else if r = 2 then D.p else if r = 3 then D.f else D.a
def cOf (D : LkB) (r : Nat) : Nat := if r = 0 then D.cl else if r = 1 then D.cn else if r = 2 then D.cp else if r = 3 then D.cf else D.ca
def lenOf (n m r : Nat) : Nat := if r < 3 then n else m
def preOf (n m r : Nat) : Nat := if r = 0 then 0 else if r = 1 then n else if r = 2 then n + n else if r = 3 then n + n + n else if r = 4 then n + n + n + m else n + n + n + m + m
theorem preOf_step {n m r : Nat} (h : r < 5) : preOf n m (r + 1) = preOf n m r + lenOf n m r := by
  obtain rfl | rfl | rfl | rfl | rfl : r = 0 ∨ r = 1 ∨ r = 2 ∨ r = 3 ∨ r = 4 := by omega
  all_goals simp [preOf, lenOf]
def fiveR (n m : Nat) (D : LkB) : Array Value := #[slc D.l n D.cl, slc D.n n D.cn, slc D.p n D.cp, slc D.f m D.cf, slc D.a m D.ca]
theorem fiveR_get {n m r : Nat} {D : LkB} (h : r < 5) : (fiveR n m D)[r]? = some (slc (gOf D r) (lenOf n m r) (cOf D r)) := by
  obtain rfl | rfl | rfl | rfl | rfl : r = 0 ∨ r = 1 ∨ r = 2 ∨ r = 3 ∨ r = 4 := by omega
  all_goals rfl
def NumPost (n m : Nat) (D : LkB) (k : Nat) (W : World) (e : Ending) (W' : World) : Prop :=
  ∃ r j, r < 5 ∧ j < lenOf n m r ∧ k = j + preOf n m r ∧ e = .returned (.pointer (some ⟨gOf D r, j, none⟩)) ∧ Below W.heap.size W W'
set_option maxHeartbeats 8000000 in
set_option maxRecDepth 100000 in
theorem number_any {W : World} {K n m k : Nat} {D : LkB} (c1 : W.cell? ⟨K, 1, none⟩ = some (.slice (some ⟨D.l, 0, none⟩) n D.cl)) (c2 : W.cell? ⟨K, 2, none⟩ = some (.slice (some ⟨D.n, 0, none⟩) n D.cn)) (c3 : W.cell? ⟨K, 3, none⟩ = some (.slice (some ⟨D.p, 0, none⟩) n D.cp)) (c4 : W.cell? ⟨K, 4, none⟩ = some (.slice (some ⟨D.f, 0, none⟩) m D.cf)) (c5 : W.cell? ⟨K, 5, none⟩ = some (.slice (some ⟨D.a, 0, none⟩) m D.ca))
    (hk : k < n + n + n + m + m) (hn : n ≤ 2000) (hm : m ≤ 2000) : Calls Try.prog 33 #[.pointer (some ⟨K, 0, none⟩), .int .i64 (k : Int)] W (NumPost n m D k W) := by
  have HK := Lib.hid hk; have HN := Lib.hid hn; have HM := Lib.hid hm
  clear hk hn hm
  go_enter Try.func33, Try.ntmps33
  go_wp2_with fail
  go_region
  go_wp2_with fail
  have hB : Below W.heap.size W (W.alloc (.cells (fiveR n m D) 29)).drew := ((Below.refl _ W).alloc (Nat.le_refl _) _).drew
  have hR : (W.alloc (.cells (fiveR n m D) 29)).drew.heap[W.heap.size]? = some (.cells (fiveR n m D) 29 (0, 0)) := heap_alloc_new W _
  unfold fiveR slc at hB hR
  generalize (W.alloc (.cells #[.slice (some ⟨D.l, 0, none⟩) n D.cl, .slice (some ⟨D.n, 0, none⟩) n D.cn, .slice (some ⟨D.p, 0, none⟩) n D.cp, .slice (some ⟨D.f, 0, none⟩) m D.cf, .slice (some ⟨D.a, 0, none⟩) m D.ca] 29)).drew = V at hB hR ⊢
  have HR : Hid (∀ r, r < 5 → V.cell? ⟨W.heap.size, r, none⟩ = some (.slice (some ⟨gOf D r, 0, none⟩) (lenOf n m r) (cOf D r))) := Lib.hid (fun r hr => row_cell hR (fiveR_get hr))
  have HB := Lib.hid hB
  clear hB hR c1 c2 c3 c4 c5
  go_loopg [1, 6] 5 (fun n1 x1 x6 wr => ∃ (i q : Nat), x1 = .int .i64 (q : Int) ∧ x6 = .int .i64 (i : Int) ∧ i + n1 = 5 ∧ k = q + preOf n m i ∧ wr = V)
  case atStart => exact ⟨0, k, by go_num, by go_num, by omega, by simp [preOf], rfl⟩
  case round =>
    obtain ⟨i, q, rfl, rfl, hin, hq, rfl⟩ := hrel
    by_cases hlt : i < 5
    · obtain ⟨n', rfl⟩ : ∃ n', gk = n' + 1 := ⟨gk - 1, by omega⟩
      have x0 := HR.out i hlt
      have i0 : (0 : Int) ≤ i := by omega
      have i1 : (i : Int) < 5 := by omega
      have i2 : (i : Int) < (5 : Nat) := by omega
      have w1 : IntKind.i64.wrap ((i : Int) + 1) = (i : Int) + 1 := IntWalk.i64_in _ (by omega)
      have hpre := preOf_step (n := n) (m := m) hlt
      have HPRE := Lib.hid hpre
      have HQ := Lib.hid hq; have HLT := Lib.hid hlt; have HLEN : Hid (lenOf n m i ≤ 2000) := Lib.hid (by unfold lenOf; split; exact HN.out; exact HM.out)
      clear hpre hq
      obtain ⟨g, hg⟩ : ∃ g, g = gOf D i := ⟨_, rfl⟩
      rw [← hg] at x0
      have HG := Lib.hid hg
      clear hg
      obtain ⟨len, hlen⟩ : ∃ len, len = lenOf n m i := ⟨_, rfl⟩
      rw [← hlen] at x0
      have HL := Lib.hid hlen
      generalize cOf D i = c at x0
      clear hlen
      have q0 : (0 : Int) ≤ q := by omega
      by_cases hq2 : (q : Int) < len
      · go_wp2_with fail
        go_ret
        exact ⟨i, q, HLT.out, by rw [← HL.out]; omega, HQ.out, by rw [← HG.out]; rfl, HB.out⟩
      · have w2 : IntKind.i64.wrap ((q : Int) - len) = (((q - len : Nat) : Nat) : Int) := by
          rw [IntWalk.i64_in _ (by have := HQ.out; have := HK.out; have := HN.out; have := HM.out; have := HLEN.out; omega)]
          omega
        have HQ2 : Hid (len ≤ q) := Lib.hid (by omega)
        go_wp2_with fail
        go_roundg n'
        case measure => omega
        case rel => exact ⟨i + 1, q - len, by go_num, by go_num, by omega, by have := HPRE.out; have := HQ.out; have := HL.out; have := HQ2.out; omega, rfl⟩
    · exfalso
      have := HK.out
      obtain rfl : i = 5 := by omega
      simp [preOf] at hq
      omega
end Go.Proofs.Ytmelcohfjonjfaa
namespace Go.Proofs.Ytmelcohfjonjfaa
open Go.RowKit

def spOf (n m : Nat) (D : LkB) : SP := ⟨some ⟨D.v, 0, none⟩, some ⟨D.l, 0, none⟩, some ⟨D.n, 0, none⟩, some ⟨D.p, 0, none⟩, some ⟨D.f, 0, none⟩, some ⟨D.a, 0, none⟩, n, n, n, n, m, m, D.cv, D.cl, D.cn, D.cp, D.cf, D.ca⟩
theorem RowF.slo {W : World} {g n : Nat} {f : Nat → Int} (h : RowF W g n f) : SlO W (some ⟨g, 0, none⟩) n f := fun j hj => ⟨g, 0, rfl, h.lt, by rw [Nat.zero_add]; exact (h.get hj).1⟩
theorem RowsAt.sp {W : World} {n m : Nat} {D : LkB} {v : Nat → Int} {F : LkF} (h : RowsAt W n m D v F) : SPAt W (spOf n m D) v F := ⟨h.rv.slo, h.rl.slo, h.rn.slo, h.rp.slo, h.rf.slo, h.ra.slo⟩
theorem spOf_fits {n m : Nat} {D : LkB} (nn : 1 ≤ n ∧ n ≤ 2000) (mm : 1 ≤ m ∧ m ≤ 64) : (spOf n m D).fits = true := by
  unfold SP.fits countsR spOf
  simp
  omega
theorem RowsAt.below {W W' : World} {n m : Nat} {D : LkB} {v : Nat → Int} {F : LkF} (h : RowsAt W n m D v F) (hb : Below W.heap.size W W') : RowsAt W' n m D v F :=
  ⟨h.rv.below hb h.rv.lt, h.rl.below hb h.rl.lt, h.rn.below hb h.rn.lt, h.rp.below hb h.rp.lt, h.rf.below hb h.rf.lt, h.ra.below hb h.ra.lt⟩
/-- One number of the rows. -/
theorem RowsAt.num {W : World} {n m : Nat} {D : LkB} {v : Nat → Int} {F : LkF} (h : RowsAt W n m D v F) {r j : Nat} (hr : r < 5) (hj : j < lenOf n m r) : W.cell? ⟨gOf D r, j, none⟩ = some (.int .i64 (getF F r j)) ∧ W.frozen? ⟨gOf D r, j, none⟩ = false := by
  obtain rfl | rfl | rfl | rfl | rfl : r = 0 ∨ r = 1 ∨ r = 2 ∨ r = 3 ∨ r = 4 := by omega
  · exact h.rl.get hj
  · exact h.rn.get hj
  · exact h.rp.get hj
  · exact h.rf.get hj
  · exact h.ra.get hj
/-- Another number stored there. -/
theorem RowsAt.chg {W : World} {n m : Nat} {D : LkB} {v : Nat → Int} {F : LkF} (h : RowsAt W n m D v F) (ne : D.v < D.l ∧ D.l < D.n ∧ D.n < D.p ∧ D.p < D.f ∧ D.f < D.a) {r j : Nat} (hr : r < 5) (hj : j < lenOf n m r) (z : Int) : RowsAt (W.setCell ⟨gOf D r, j, none⟩ (.int .i64 z)) n m D v (chgF F r j z) := by
  obtain ⟨n1, n2, n3, n4, n5⟩ := ne
  obtain rfl | rfl | rfl | rfl | rfl : r = 0 ∨ r = 1 ∨ r = 2 ∨ r = 3 ∨ r = 4 := by omega
  · exact ⟨h.rv.other (g' := D.l) (by omega) _ _, h.rl.set hj z, h.rn.other (g' := D.l) (by omega) _ _, h.rp.other (g' := D.l) (by omega) _ _, h.rf.other (g' := D.l) (by omega) _ _, h.ra.other (g' := D.l) (by omega) _ _⟩
  · exact ⟨h.rv.other (g' := D.n) (by omega) _ _, h.rl.other (g' := D.n) (by omega) _ _, h.rn.set hj z, h.rp.other (g' := D.n) (by omega) _ _, h.rf.other (g' := D.n) (by omega) _ _, h.ra.other (g' := D.n) (by omega) _ _⟩
  · exact ⟨h.rv.other (g' := D.p) (by omega) _ _, h.rl.other (g' := D.p) (by omega) _ _, h.rn.other (g' := D.p) (by omega) _ _, h.rp.set hj z, h.rf.other (g' := D.p) (by omega) _ _, h.ra.other (g' := D.p) (by omega) _ _⟩
  · exact ⟨h.rv.other (g' := D.f) (by omega) _ _, h.rl.other (g' := D.f) (by omega) _ _, h.rn.other (g' := D.f) (by omega) _ _, h.rp.other (g' := D.f) (by omega) _ _, h.rf.set hj z, h.ra.other (g' := D.f) (by omega) _ _⟩
  · exact ⟨h.rv.other (g' := D.a) (by omega) _ _, h.rl.other (g' := D.a) (by omega) _ _, h.rn.other (g' := D.a) (by omega) _ _, h.rp.other (g' := D.a) (by omega) _ _, h.rf.other (g' := D.a) (by omega) _ _, h.ra.set hj z⟩
theorem fz_freeV {n m : Nat} {v : Nat → Int} {of : Nat → List Nat} {F : LkF} (h : FZ n m v of) (hr : Rep n m of F) : ∀ j, j < n → freeV v F n j = v j := by
  intro j hj
  unfold freeV
  by_cases e : F.list j = -1
  · rw [if_pos ⟨hj, e⟩]
    refine (h j hj (fun i hi hm => ?_)).symm
    have := (hr.used i hi j hm).1
    omega
  · rw [if_neg (fun h2 => e h2.2)]
/-- The numbers' ranges. -/
theorem getF_range {n m : Nat} {of : Nat → List Nat} {F : LkF} (h : Rep n m of F) {r j : Nat} (hr : r < 5) (hj : j < lenOf n m r) : -1 ≤ getF F r j ∧ getF F r j < (if r = 0 then m else n : Nat) := by
  have hs := h.slots
  obtain rfl | rfl | rfl | rfl | rfl : r = 0 ∨ r = 1 ∨ r = 2 ∨ r = 3 ∨ r = 4 := by omega
  · have := hs j hj
    show -1 ≤ F.list j ∧ F.list j < (m : Int)
    rcases this with e | e <;> omega
  · have := hs j hj
    show -1 ≤ F.next j ∧ F.next j < (n : Int)
    have : 0 ≤ n := Nat.zero_le _
    rcases hs j hj with e | e <;> omega
  · show -1 ≤ F.prev j ∧ F.prev j < (n : Int)
    rcases hs j hj with e | e <;> omega
  · show -1 ≤ F.first j ∧ F.first j < (n : Int)
    have hj : j < m := hj
    rw [(h.ends j hj).1]
    by_cases e : of j = []
    · rw [e]; show (-1 : Int) ≤ -1 ∧ (-1 : Int) < n; omega
    · obtain ⟨a, ha, ea⟩ := hd_mem e
      have := h.lt j hj a ha
      omega
  · show -1 ≤ F.last j ∧ F.last j < (n : Int)
    have hj : j < m := hj
    rw [(h.ends j hj).2]
    by_cases e : of j = []
    · rw [e]; show (-1 : Int) ≤ -1 ∧ (-1 : Int) < n; omega
    · obtain ⟨a, ha, ea⟩ := lst_mem e
      have := h.lt j hj a ha
      omega
theorem num_a {y n : Nat} (hy : y ≤ 65535) : ∃ k : Nat, k < n + n + n + 3 + 3 ∧ (wrap64 (y : Int)).tmod (3 * (n : Int) + 6) = (k : Int) := by
  refine ⟨y % (3 * n + 6), by have := Nat.mod_lt y (show 3 * n + 6 > 0 by omega); omega, ?_⟩
  rw [IntWalk.wrap64_in (y : Int) (by omega), show (3 * (n : Int) + 6) = ((3 * n + 6 : Nat) : Int) by omega]
  rfl
theorem num_b {y most : Nat} (hy : y ≤ 65535) (hm : 1 ≤ most ∧ most ≤ 60) : ∃ u : Nat, u < most ∧ (wrap64 (y : Int)).tmod (most : Int) = (u : Int) := by
  refine ⟨y % most, Nat.mod_lt y (by omega), ?_⟩
  rw [IntWalk.wrap64_in (y : Int) (by omega)]
  rfl
theorem num_r {n r j k : Nat} (hr : r < 5) (hj : j < lenOf n 3 r) (hk : k = j + preOf n 3 r) : (r = 0 → (k : Int) < n) ∧ (r ≠ 0 → ¬ (k : Int) < n) := by
  obtain rfl | rfl | rfl | rfl | rfl : r = 0 ∨ r = 1 ∨ r = 2 ∨ r = 3 ∨ r = 4 := by omega
  all_goals simp [preOf] at hk; simp [lenOf] at hj; constructor <;> intro h <;> omega
theorem num_m {n r : Nat} {x : Int} (nn : 1 ≤ n ∧ n ≤ 60) (h : -1 ≤ x ∧ x < (if r = 0 then 3 else n : Nat)) : ∃ most : Nat, most = (if r = 0 then 3 else n) ∧ (1 ≤ most ∧ most ≤ 60) ∧ -1 ≤ x ∧ x < most := by
  refine ⟨_, rfl, ?_, h.1, h.2⟩
  split <;> omega
def arrV (a b : Int) : Value := .agg #[.int .u16 a, .int .u16 b]
set_option maxHeartbeats 4000000 in
set_option maxRecDepth 100000 in
theorem broken_far {W : World} {p : Option Addr} {len cap : Nat} (s y0 y1 : Int) (hs : s < 1 ∨ 60 < s ∨ 60 < (len : Int)) :
    Calls Try.prog 6 #[.int .i64 s, .slice p len cap, arrV y0 y1] W (TruePost W) := by
  have CA := Lib.hid awake_any
  have HB := Lib.hid ((Below.refl W.heap.size W).alloc (Nat.le_refl _) (.cells #[.int .u16 y0, .int .u16 y1] 65))
  unfold arrV
  by_cases h1 : s < 1
  · clear hs
    go_enter Try.func6, Try.ntmps6
    go_wp2_with fail
    refine (CA.out _).mono ?_
    rintro e w1 ⟨rfl, hb⟩
    go_wp2_with fail
    go_ret
    exact ⟨rfl, HB.out.trans (hb.mono HB.out.size)⟩
  · by_cases h2 : 60 < s
    · clear hs
      go_enter Try.func6, Try.ntmps6
      go_wp2_with fail
      refine (CA.out _).mono ?_
      rintro e w1 ⟨rfl, hb⟩
      go_wp2_with fail
      go_ret
      exact ⟨rfl, HB.out.trans (hb.mono HB.out.size)⟩
    · have h3 : 60 < (len : Int) := by omega
      clear hs
      go_enter Try.func6, Try.ntmps6
      go_wp2_with fail
      refine (CA.out _).mono ?_
      rintro e w1 ⟨rfl, hb⟩
      go_wp2_with fail
      go_ret
      exact ⟨rfl, HB.out.trans (hb.mono HB.out.size)⟩
set_option maxHeartbeats 8000000 in
set_option maxRecDepth 100000 in
theorem broken_near {W : World} {p : Option Addr} {n len cap y0 y1 : Nat} (nn : 1 ≤ n ∧ n ≤ 60) (hl : len ≤ 60) (hx : CallsAt W p len) (hy0 : y0 ≤ 65535) (hy1 : y1 ≤ 65535) :
    Calls Try.prog 6 #[.int .i64 (n : Int), .slice p len cap, arrV y0 y1] W (TruePost W) := by
  have CA := Lib.hid awake_any
  have hW1 := (Below.refl W.heap.size W).alloc (Nat.le_refl _) (.cells #[.int .u16 y0, .int .u16 y1] 65)
  have CM := Lib.hid (show Calls Try.prog 25 #[.int .i64 (n : Int), .int .i64 3, .slice p len cap] (W.alloc (.cells #[.int .u16 y0, .int .u16 y1] 65)) (MadePost n 3 (W.alloc (.cells #[.int .u16 y0, .int .u16 y1] 65))) from made_any (m := 3) (by omega) (by omega) (hx.below hW1) (by omega))
  have HY := Lib.hid (heap_alloc_new W (.cells #[.int .u16 y0, .int .u16 y1] 65))
  have HW1 := Lib.hid hW1
  have HYL := Lib.hid (size1 W (.cells #[.int .u16 y0, .int .u16 y1] 65))
  have i1 : ¬ (n : Int) < 1 := by omega
  have i2 : ¬ (60 : Int) < n := by omega
  have i3 : ¬ (60 : Int) < len := by omega
  have HNN := Lib.hid nn; have HY0 := Lib.hid hy0; have HY1 := Lib.hid hy1
  clear hx nn hl hW1 hy0 hy1
  unfold arrV
  go_enter Try.func6, Try.ntmps6
  go_wp2_with fail
  generalize hK0 : W.heap.size = K0 at *
  generalize W.alloc (.cells #[.int .u16 y0, .int .u16 y1] 65) = W1 at CM HY HW1 HYL ⊢
  refine CM.out.mono ?_
  rintro e w1 ⟨⟨B, n', m', D, C, g, gv, cg, cv, base⟩, v, of, hPn, hPm, rfl, J⟩
  dsimp only at hPn hPm J
  subst hPn hPm
  have CS := Lib.hid (save_any J.pool)
  have HJ := Lib.hid J
  clear J CM
  dsimp only at CS
  go_wp2_with fail
  refine CS.out.mono ?_
  rintro e w2 ⟨D1, F1, rfl, hR1, hF1⟩
  have HS := Lib.hid hR1; have HF1 := Lib.hid hF1
  clear hR1 hF1 CS
  unfold stV slc
  go_wp2_with fail
  have hB3 := (Below.refl w2.heap.size w2).alloc (Nat.le_refl _) (.cells #[.slice (some ⟨D1.v, 0, none⟩) n' D1.cv, .slice (some ⟨D1.l, 0, none⟩) n' D1.cl, .slice (some ⟨D1.n, 0, none⟩) n' D1.cn, .slice (some ⟨D1.p, 0, none⟩) n' D1.cp, .slice (some ⟨D1.f, 0, none⟩) 3 D1.cf, .slice (some ⟨D1.a, 0, none⟩) 3 D1.ca] 39)
  have HR3 := Lib.hid (HS.out.rows.below hB3)
  have HJ3 := Lib.hid ((HJ.out.below HS.out.old).below hB3)
  have HBX := Lib.hid (heap_alloc_new w2 (.cells #[.slice (some ⟨D1.v, 0, none⟩) n' D1.cv, .slice (some ⟨D1.l, 0, none⟩) n' D1.cl, .slice (some ⟨D1.n, 0, none⟩) n' D1.cn, .slice (some ⟨D1.p, 0, none⟩) n' D1.cp, .slice (some ⟨D1.f, 0, none⟩) 3 D1.cf, .slice (some ⟨D1.a, 0, none⟩) 3 D1.ca] 39))
  have HSZ3 := Lib.hid (size1 w2 (.cells #[.slice (some ⟨D1.v, 0, none⟩) n' D1.cv, .slice (some ⟨D1.l, 0, none⟩) n' D1.cl, .slice (some ⟨D1.n, 0, none⟩) n' D1.cn, .slice (some ⟨D1.p, 0, none⟩) n' D1.cp, .slice (some ⟨D1.f, 0, none⟩) 3 D1.cf, .slice (some ⟨D1.a, 0, none⟩) 3 D1.ca] 39))
  have HNE := Lib.hid HS.out.ne
  have HGE : Hid (W1.heap.size ≤ D1.v) := Lib.hid (Nat.le_trans HJ.out.old.size HS.out.ge)
  have HFR : Hid (∀ k, D1.S k → ¬ (JP.mk B n' 3 D C g gv cg cv base).T k ∧ k < w2.heap.size ∧ W1.heap.size ≤ k) := Lib.hid (fun k hk => by
    have h1 := HJ.out.bs
    have h2 := HS.out.ge
    obtain ⟨e1, e2, e3, e4, e5⟩ := HS.out.ne
    have h3 := HS.out.rows.ra.lt
    have h4 := HJ.out.old.size
    have hk2 : w1.heap.size ≤ k ∧ k < w2.heap.size := by rcases hk with e | e | e | e | e | e <;> omega
    refine ⟨?_, hk2.2, by omega⟩
    have hf := HJ.out.far (q := k) (by omega)
    rintro (e | e)
    · exact hf.1 e
    · exact hf.2 e)
  have CL := Lib.hid (Load_any (HR3.out.sp))
  have hY3 := (HJ3.out.old.block K0 (by rw [HYL.out]; omega)).trans HY.out
  have HY3 := Lib.hid hY3
  have HLT3 : Hid (K0 < (w2.alloc (.cells #[.slice (some ⟨D1.v, 0, none⟩) n' D1.cv, .slice (some ⟨D1.l, 0, none⟩) n' D1.cl, .slice (some ⟨D1.n, 0, none⟩) n' D1.cn, .slice (some ⟨D1.p, 0, none⟩) n' D1.cp, .slice (some ⟨D1.f, 0, none⟩) 3 D1.cf, .slice (some ⟨D1.a, 0, none⟩) 3 D1.ca] 39)).heap.size) := Lib.hid (Nat.lt_of_lt_of_le (by rw [HYL.out]; omega) HJ3.out.old.size)
  clear hB3 hY3
  unfold spOf SP.val SP.cells at CL
  dsimp only at CL
  generalize w2.alloc (.cells #[.slice (some ⟨D1.v, 0, none⟩) n' D1.cv, .slice (some ⟨D1.l, 0, none⟩) n' D1.cl, .slice (some ⟨D1.n, 0, none⟩) n' D1.cn, .slice (some ⟨D1.p, 0, none⟩) n' D1.cp, .slice (some ⟨D1.f, 0, none⟩) 3 D1.cf, .slice (some ⟨D1.a, 0, none⟩) 3 D1.ca] 39) = w3 at *
  generalize w2.heap.size = K9 at *
  clear HS HJ
  refine CL.out.mono ?_
  rintro e w4 h4
  have h5 : ∃ B2 D2, e = .returned (.tuple #[.pointer (some ⟨B2, 0, none⟩), .int .i64 0]) ∧ NewPool w3 w4 B2 n' 3 D2 (freeV v F1 n') F1 := by
    have hok : WrongIs (spOf n' 3 D1).fits n' 3 F1 0 0 := by
      rw [spOf_fits (by have := HNN.out; omega) (by omega)]
      exact HF1.out.right
    rcases h4 with ⟨a, b, ha, hw, _⟩ | ⟨_, h⟩
    · exact absurd (hw.uniq hok).1 ha
    · exact h
  obtain ⟨B2, D2, rfl, hP⟩ := h5
  have HP := Lib.hid hP
  have CS2 := Lib.hid (save_any (show PoolS w4 B2 n' 3 D2 (freeV v F1 n') of from ⟨F1, hP.pool, HF1.out⟩))
  clear h4 hP CL
  go_wp2_with fail
  refine CS2.out.mono ?_
  rintro e w5 ⟨D3, F3, rfl, hR5, hF3⟩
  have HS5 := Lib.hid hR5.rows.st
  have HB5 := Lib.hid (HP.out.old.trans (hR5.old.mono HP.out.old.size))
  have HF3 := Lib.hid hF3
  have hls := HJ3.out.below HB5.out
  obtain ⟨F0, hF0⟩ := hls.lr.rep
  have CQ := Lib.hid (rsave_any hls.ls hF0 (fun i hi => by
    have := List.Nodup.length_le_of_subset (hF0.nodup i hi) (l₂ := List.range n') (fun x hx => List.mem_range.2 (hF0.lt i hi x hx))
    have := HNN.out
    simp at *
    omega) (by have := HNN.out; show n' ≤ 2000; omega) (by show 3 ≤ 64; omega))
  clear hR5 hF3 hls hF0 CS2
  unfold stV slc at HS5 ⊢
  go_wp2_with fail
  refine CQ.out.mono ?_
  rintro e w6 ⟨s, F2, rfl, hs2, hF2, hb2⟩
  have HB6 := Lib.hid (HB5.out.trans (hb2.mono HB5.out.size))
  have CE := Lib.hid (same_any (HS5.out.below hb2) (hs2.turn hF2 HF3.out (fun j hj => (fz_freeV HJ3.out.fz HF1.out j hj).symm)) (by have := HNN.out; show n' ≤ 100000; omega) (by show 3 ≤ 100000; omega))
  obtain ⟨a0, a1, a2, a3, a4, a5, rfl, _⟩ := hs2.ex
  clear hs2 hF2 hb2 CQ
  go_wp2_with fail
  refine CE.out.mono ?_
  rintro e w7 ⟨rfl, hb3⟩
  have HB7 := Lib.hid (HB6.out.trans (hb3.mono HB6.out.size))
  clear hb3 CE HB5 HB6 HS5 HF3 HP
  have HJ7 := Lib.hid (HJ3.out.below HB7.out)
  have HR7 := Lib.hid (HR3.out.below HB7.out)
  have hb9 := (HB7.out.block K9 (by rw [HSZ3.out]; omega)).trans HBX.out
  have k0 := row_cell (i := 0) hb9 rfl; have k1 := row_cell (i := 1) hb9 rfl; have k2 := row_cell (i := 2) hb9 rfl; have k3 := row_cell (i := 3) hb9 rfl; have k4 := row_cell (i := 4) hb9 rfl; have k5 := row_cell (i := 5) hb9 rfl
  have hy7 := (HB7.out.block K0 HLT3.out).trans HY3.out
  have z0 := row_cell (i := 0) hy7 rfl; have z1 := row_cell (i := 1) hy7 rfl
  have HB9 := Lib.hid hb9; have HY7 := Lib.hid hy7
  clear hb9 hy7 HJ3 HR3 HBX HY3
  obtain ⟨k, hkl, ek⟩ := num_a (n := n') HY0.out
  have CN := Lib.hid (number_any (D := D1) (n := n') (m := 3) (k := k) k1 k2 k3 k4 k5 hkl (by have := HNN.out; omega) (by omega))
  clear hkl
  go_wp2_with fail
  refine CN.out.mono ?_
  rintro e w8 ⟨r, j, hr, hj, hkr, rfl, hb8⟩
  have HB8 := Lib.hid (HB7.out.trans (hb8.mono HB7.out.size))
  have HJ8 := Lib.hid (HJ7.out.below hb8)
  have HR8 := Lib.hid (HR7.out.below hb8)
  have hlt9 : K9 < w7.heap.size := World.block_lt_of_cell? _ _ k0
  have hlt0 : K0 < w7.heap.size := World.block_lt_of_cell? _ _ z0
  have HB9' := Lib.hid ((hb8.block K9 hlt9).trans HB9.out)
  have HY8 := Lib.hid ((hb8.block K0 hlt0).trans HY7.out)
  clear k0 k1 k2 k3 k4 k5 z0 z1 hb8 CN hlt9 hlt0 HJ7 HR7
  have z0 := row_cell (i := 0) HY8.out rfl; have z1 := row_cell (i := 1) HY8.out rfl
  obtain ⟨q0, q1⟩ := HR8.out.num hr hj
  have hrange := getF_range HF1.out hr hj
  obtain ⟨x, hx⟩ : ∃ x, x = getF F1 r j := ⟨_, rfl⟩
  rw [← hx] at q0 hrange
  obtain ⟨gr, hgr⟩ : ∃ gr, gr = gOf D1 r := ⟨_, rfl⟩
  rw [← hgr] at q0 q1
  have HX := Lib.hid hx; have HGR := Lib.hid hgr; have HR := Lib.hid hr; have HJJ := Lib.hid hj; have HKR := Lib.hid hkr; have HRNG := Lib.hid hrange
  rw [← hgr]
  obtain ⟨most, hmost, hm1, hx1⟩ := num_m HNN.out hrange
  obtain ⟨u, hul, eu⟩ := num_b HY1.out hm1
  obtain ⟨hk1, hk2⟩ := num_r hr hj hkr
  have HMOST := Lib.hid hmost; have HM1 := Lib.hid hm1; have HX1 := Lib.hid hx1; have HUL := Lib.hid hul
  clear hx hgr hr hj hrange hkr hm1 hx1 hul
  have HK9 : Hid (gr < K9 ∧ W1.heap.size ≤ gr) := Lib.hid (by
    have h := HFR.out (gOf D1 r) (by
      have := HR.out
      obtain rfl | rfl | rfl | rfl | rfl : r = 0 ∨ r = 1 ∨ r = 2 ∨ r = 3 ∨ r = 4 := by omega
      · exact .inr (.inl rfl)
      · exact .inr (.inr (.inl rfl))
      · exact .inr (.inr (.inr (.inl rfl)))
      · exact .inr (.inr (.inr (.inr (.inl rfl))))
      · exact .inr (.inr (.inr (.inr (.inr rfl)))))
    rw [← HGR.out] at h
    exact h.2)
  have SET : Hid (∀ z : Int, (let V := w8.setCell ⟨gr, j, none⟩ (.int .i64 z)
      V.heap[K9]? = some (.cells #[.slice (some ⟨D1.v, 0, none⟩) n' D1.cv, .slice (some ⟨D1.l, 0, none⟩) n' D1.cl, .slice (some ⟨D1.n, 0, none⟩) n' D1.cn, .slice (some ⟨D1.p, 0, none⟩) n' D1.cp, .slice (some ⟨D1.f, 0, none⟩) 3 D1.cf, .slice (some ⟨D1.a, 0, none⟩) 3 D1.ca] 39) ∧ V.cell? ⟨gr, j, none⟩ = some (.int .i64 z) ∧ RowsAt V n' 3 D1 v (chgF F1 r j z) ∧ Below K0 W V ∧ (z ≠ x → ¬ ∃ a b, a = 0 ∧ WrongIs (spOf n' 3 D1).fits n' 3 (chgF F1 r j z) a b))) := Lib.hid (fun z => by
    intro V
    have hne := HK9.out
    have hrows := HR8.out.chg HNE.out HR.out HJJ.out z
    rw [← HGR.out] at hrows
    refine ⟨(Below.heap_setCell _ _ _ _ (by simp; omega)).trans HB9'.out, ?_, hrows, ?_, ?_⟩
    · have hc := (hrows.num HR.out HJJ.out).1
      rw [← HGR.out] at hc
      have e : getF (chgF F1 r j z) r j = z := by
        have := HR.out
        obtain rfl | rfl | rfl | rfl | rfl : r = 0 ∨ r = 1 ∨ r = 2 ∨ r = 3 ∨ r = 4 := by omega
        all_goals exact updF_same _ _ _
      rw [e] at hc
      exact hc
    · have h1 := HYL.out
      exact (HW1.out.trans (HJ8.out.old.mono (by omega))).setCell (p := ⟨gr, j, none⟩) (by show K0 ≤ gr; omega) _
    · rintro hzx ⟨a, b, ha, hw⟩
      rw [spOf_fits (by have := HNN.out; omega) (by omega)] at hw
      refine chg_wrong HR.out ?_ (by rw [← HX.out]; exact hzx) HF1.out hw ⟨ha, (hw.zero ha).2⟩
      exact HJJ.out)
  have HK0L : Hid (K0 ≤ W.heap.size) := Lib.hid (by rw [hK0]; exact Nat.le_refl _)
  by_cases hr0 : r = 0
  · have hkn : (k : Int) < n' := hk1 hr0
    rw [if_pos hr0] at hmost
    rw [hmost] at eu
    have eu : (wrap64 (y1 : Int)).tmod 3 = (u : Int) := eu
    clear hk1 hk2 hmost hr0
    obtain ⟨z, ez⟩ : ∃ z : Int, wrap64 ((wrap64 (wrap64 (wrap64 (x + 1) + 1) + (u : Int))).tmod 4 - 1) = z := ⟨_, rfl⟩
    obtain ⟨s9, s10, s11, s12, s13⟩ := SET.out z
    have HS9 := Lib.hid s9; have HS11 := Lib.hid s11; have HS12 := Lib.hid s12; have HS13 := Lib.hid s13
    have k0 := row_cell (i := 0) s9 rfl; have k1 := row_cell (i := 1) s9 rfl; have k2 := row_cell (i := 2) s9 rfl; have k3 := row_cell (i := 3) s9 rfl; have k4 := row_cell (i := 4) s9 rfl; have k5 := row_cell (i := 5) s9 rfl
    clear s9 s11 s12 s13
    by_cases t : z = x
    · have t1 : (z == x) = true := beq_iff_eq.2 t
      clear t
      go_wp2_with fail
      refine (CA.out _).mono ?_
      rintro e w9 ⟨rfl, hb⟩
      go_wp2_with fail
      go_ret
      exact ⟨rfl, by rw [hK0]; exact HS12.out.trans (hb.mono (Nat.le_trans HK0L.out HS12.out.size))⟩
    · have t1 : (z == x) = false := beq_eq_false_iff_ne.2 t
      have HT := Lib.hid t
      clear t
      have CL2 := Lib.hid (Load_any (HS11.out.sp))
      unfold spOf SP.val SP.cells at CL2
      dsimp only at CL2
      go_wp2_with fail
      refine CL2.out.mono ?_
      rintro e w9 h9
      have h10 : e = .returned (.tuple #[.pointer none, .int .i64 6]) ∧ Below (w8.setCell ⟨gr, j, none⟩ (.int .i64 z)).heap.size (w8.setCell ⟨gr, j, none⟩ (.int .i64 z)) w9 := by
        rcases h9 with ⟨a, b, ha, hw, he, hb⟩ | ⟨hw, _⟩
        · exact ⟨he, hb⟩
        · exact absurd ⟨0, 0, rfl, hw⟩ (HS13.out HT.out)
      obtain ⟨rfl, hb⟩ := h10
      have HB10 := Lib.hid hb
      clear h9 hb CL2 k0 k1 k2 k3 k4 k5
      go_wp2_with fail
      refine (CA.out _).mono ?_
      rintro e w11 ⟨rfl, hb⟩
      go_wp2_with fail
      go_ret
      exact ⟨rfl, by rw [hK0]; exact (HS12.out.trans (HB10.out.mono (Nat.le_trans HK0L.out HS12.out.size))).trans (hb.mono (Nat.le_trans (Nat.le_trans HK0L.out HS12.out.size) HB10.out.size))⟩
  · have hkn : ¬ (k : Int) < n' := hk2 hr0
    rw [if_neg hr0] at hmost
    rw [hmost] at eu
    have eu : (wrap64 (y1 : Int)).tmod (n' : Int) = (u : Int) := eu
    clear hk1 hk2 hmost hr0
    obtain ⟨z, ez⟩ : ∃ z : Int, wrap64 ((wrap64 (wrap64 (wrap64 (x + 1) + 1) + (u : Int))).tmod ((n' : Int) + 1) - 1) = z := ⟨_, rfl⟩
    obtain ⟨s9, s10, s11, s12, s13⟩ := SET.out z
    have HS9 := Lib.hid s9; have HS11 := Lib.hid s11; have HS12 := Lib.hid s12; have HS13 := Lib.hid s13
    have k0 := row_cell (i := 0) s9 rfl; have k1 := row_cell (i := 1) s9 rfl; have k2 := row_cell (i := 2) s9 rfl; have k3 := row_cell (i := 3) s9 rfl; have k4 := row_cell (i := 4) s9 rfl; have k5 := row_cell (i := 5) s9 rfl
    clear s9 s11 s12 s13
    by_cases t : z = x
    · have t1 : (z == x) = true := beq_iff_eq.2 t
      clear t
      go_wp2_with fail
      refine (CA.out _).mono ?_
      rintro e w9 ⟨rfl, hb⟩
      go_wp2_with fail
      go_ret
      exact ⟨rfl, by rw [hK0]; exact HS12.out.trans (hb.mono (Nat.le_trans HK0L.out HS12.out.size))⟩
    · have t1 : (z == x) = false := beq_eq_false_iff_ne.2 t
      have HT := Lib.hid t
      clear t
      have CL2 := Lib.hid (Load_any (HS11.out.sp))
      unfold spOf SP.val SP.cells at CL2
      dsimp only at CL2
      go_wp2_with fail
      refine CL2.out.mono ?_
      rintro e w9 h9
      have h10 : e = .returned (.tuple #[.pointer none, .int .i64 6]) ∧ Below (w8.setCell ⟨gr, j, none⟩ (.int .i64 z)).heap.size (w8.setCell ⟨gr, j, none⟩ (.int .i64 z)) w9 := by
        rcases h9 with ⟨a, b, ha, hw, he, hb⟩ | ⟨hw, _⟩
        · exact ⟨he, hb⟩
        · exact absurd ⟨0, 0, rfl, hw⟩ (HS13.out HT.out)
      obtain ⟨rfl, hb⟩ := h10
      have HB10 := Lib.hid hb
      clear h9 hb CL2 k0 k1 k2 k3 k4 k5
      go_wp2_with fail
      refine (CA.out _).mono ?_
      rintro e w11 ⟨rfl, hb⟩
      go_wp2_with fail
      go_ret
      exact ⟨rfl, by rw [hK0]; exact (HS12.out.trans (HB10.out.mono (Nat.le_trans HK0L.out HS12.out.size))).trans (hb.mono (Nat.le_trans (Nat.le_trans HK0L.out HS12.out.size) HB10.out.size))⟩
theorem broken_walk {W : World} {p : Option Addr} {len cap y0 y1 : Nat} (hx : CallsAt W p len) (s : Int) (hy0 : y0 ≤ 65535) (hy1 : y1 ≤ 65535) :
    Calls Try.prog 6 #[.int .i64 s, .slice p len cap, .agg #[.int .u16 y0, .int .u16 y1]] W (TruePost W) := by
  by_cases h : s < 1 ∨ 60 < s ∨ 60 < (len : Int)
  · exact broken_far s y0 y1 h
  · obtain ⟨n, rfl⟩ : ∃ n : Nat, s = (n : Int) := ⟨s.toNat, by omega⟩
    exact broken_near (by omega) (by omega) hx hy0 hy1
end Go.Proofs.Ytmelcohfjonjfaa
