/- links: a state as an argument gives it (any six slices); sizesFit. links: slotFits. -/
import Derived.Test.YtmelcohfjonjfaaLkSame
import Derived.Test.YtmelcohfjonjfaaLkSaved
import Derived.BigRegion
import Derived.Test.YtmelcohfjonjfaaLkCounts
namespace Go.Proofs.Ytmelcohfjonjfaa
open Go.RowKit

/-- A slice of n numbers, wherever it lies. -/
def SlO (W : World) (p : Option Addr) (n : Nat) (f : Nat → Int) : Prop := ∀ j, j < n → ∃ g off : Nat, p = some ⟨g, off, none⟩ ∧ g < W.heap.size ∧ W.cell? ⟨g, off + j, none⟩ = some (.int .i64 (f j))
theorem SlO.below {W W' : World} {p : Option Addr} {n : Nat} {f : Nat → Int} (h : SlO W p n f) (hb : Below W.heap.size W W') : SlO W' p n f := by
  intro j hj
  obtain ⟨g, off, e, hg, hx⟩ := h j hj
  exact ⟨g, off, e, Nat.lt_of_lt_of_le hg hb.size, (hb.cell hg).trans hx⟩
/-- Where the six slices of a state lie, and how long they are. -/
structure SP where
  pv : Option Addr
  pl : Option Addr
  pn : Option Addr
  pp : Option Addr
  pf : Option Addr
  pa : Option Addr
  kv : Nat
  kl : Nat
  kn : Nat
  kp : Nat
  kf : Nat
  ka : Nat
  cv : Nat
  cl : Nat
  cn : Nat
  cp : Nat
  cf : Nat
  ca : Nat
def SP.cells (s : SP) : Array Value := #[.slice s.pv s.kv s.cv, .slice s.pl s.kl s.cl, .slice s.pn s.kn s.cn, .slice s.pp s.kp s.cp, .slice s.pf s.kf s.cf, .slice s.pa s.ka s.ca]
def SP.val (s : SP) : Value := .agg s.cells
structure SPAt (W : World) (s : SP) (v : Nat → Int) (F : LkF) : Prop where
  v : SlO W s.pv s.kv v
  l : SlO W s.pl s.kl F.list
  n : SlO W s.pn s.kn F.next
  p : SlO W s.pp s.kp F.prev
  f : SlO W s.pf s.kf F.first
  a : SlO W s.pa s.ka F.last
theorem SPAt.below {W W' : World} {s : SP} {v : Nat → Int} {F : LkF} (h : SPAt W s v F) (hb : Below W.heap.size W W') : SPAt W' s v F :=
  ⟨h.v.below hb, h.l.below hb, h.n.below hb, h.p.below hb, h.f.below hb, h.a.below hb⟩
/-- A box that holds a state. -/
theorem sp_box (W : World) (s : SP) : (W.alloc (.cells s.cells 39)).cell? ⟨W.heap.size, 0, none⟩ = some (.slice s.pv s.kv s.cv) ∧ (W.alloc (.cells s.cells 39)).cell? ⟨W.heap.size, 1, none⟩ = some (.slice s.pl s.kl s.cl) ∧ (W.alloc (.cells s.cells 39)).cell? ⟨W.heap.size, 2, none⟩ = some (.slice s.pn s.kn s.cn) ∧ (W.alloc (.cells s.cells 39)).cell? ⟨W.heap.size, 3, none⟩ = some (.slice s.pp s.kp s.cp) ∧ (W.alloc (.cells s.cells 39)).cell? ⟨W.heap.size, 4, none⟩ = some (.slice s.pf s.kf s.cf) ∧ (W.alloc (.cells s.cells 39)).cell? ⟨W.heap.size, 5, none⟩ = some (.slice s.pa s.ka s.ca) := by
  have h := heap_alloc_new W (.cells s.cells 39)
  exact ⟨row_cell h rfl, row_cell h rfl, row_cell h rfl, row_cell h rfl, row_cell h rfl, row_cell h rfl⟩
def SP.fits (s : SP) : Bool := countsR s.kv s.kf && decide (s.kl = s.kv) && decide (s.kn = s.kv) && decide (s.kp = s.kv) && decide (s.ka = s.kf)
def BoolPost (b : Bool) (W : World) (e : Ending) (W' : World) : Prop := e = .returned (.bool b) ∧ Below W.heap.size W W'
set_option maxHeartbeats 4000000 in
set_option maxRecDepth 100000 in
theorem sizesFit_any (W : World) (s : SP) : Calls Try.prog 72 #[s.val] W (BoolPost s.fits W) := by
  have CF := Lib.hid (fun V => counts_any V (s.kv : Int) (s.kf : Int))
  have HB := Lib.hid ((Below.refl W.heap.size W).alloc (Nat.le_refl _) (.cells s.cells 39))
  obtain ⟨b0, b1, b2, b3, b4, b5⟩ := sp_box W s
  obtain ⟨r, hr⟩ : ∃ r, r = s.fits := ⟨_, rfl⟩
  rw [← hr]
  unfold SP.fits at hr
  unfold SP.val SP.cells at *
  generalize s.pv = pv at *; generalize s.pl = pl at *; generalize s.pn = pn at *; generalize s.pp = pp at *; generalize s.pf = pf at *; generalize s.pa = pa at *
  generalize s.kv = kv at *; generalize s.kl = kl at *; generalize s.kn = kn at *; generalize s.kp = kp at *; generalize s.kf = kf at *; generalize s.ka = ka at *
  generalize s.cv = cv at *; generalize s.cl = cl at *; generalize s.cn = cn at *; generalize s.cp = cp at *; generalize s.cf = cf at *; generalize s.ca = ca at *
  have e : r = (countsR (kv : Int) (kf : Int) && ((kl : Int) == (kv : Int)) && ((kn : Int) == (kv : Int)) && ((kp : Int) == (kv : Int)) && ((ka : Int) == (kf : Int))) := by
    rw [hr]
    have q : ∀ a b : Nat, decide (a = b) = ((a : Int) == (b : Int)) := fun a b => by
      by_cases h : a = b
      · rw [decide_eq_true h, h, beq_self_eq_true]
      · rw [decide_eq_false h, beq_eq_false_iff_ne.2 (by omega)]
    rw [q, q, q, q]
  clear hr
  cases c : countsR (kv : Int) (kf : Int)
  all_goals cases t1 : ((kl : Int) == (kv : Int))
  all_goals cases t2 : ((kn : Int) == (kv : Int))
  all_goals cases t3 : ((kp : Int) == (kv : Int))
  all_goals cases t4 : ((ka : Int) == (kf : Int))
  all_goals
    rw [c, t1, t2, t3, t4] at e
    rw [c] at CF
    simp only [Bool.and_true, Bool.and_false, Bool.true_and, Bool.false_and] at e
    subst e
    clear c
    go_enter Try.func72, Try.ntmps72
    go_wp2_with fail
    generalize W.alloc (.cells #[.slice pv kv cv, .slice pl kl cl, .slice pn kn cn, .slice pp kp cp, .slice pf kf cf, .slice pa ka ca] 39) = V at *
    generalize hK : W.heap.size = K at *
    have HK := Lib.hid hK
    clear hK
    go_region
    go_wp2_with fail
    refine (CF.out _).mono ?_
    rintro e w1 ⟨rfl, rfl⟩
    go_wp2_with fail
    go_ret
    exact ⟨rfl, by rw [HK.out]; exact HB.out.drew⟩
end Go.Proofs.Ytmelcohfjonjfaa
namespace Go.Proofs.Ytmelcohfjonjfaa
open Go.RowKit

def slotR (kf kl : Nat) (a b c : Int) : Bool := if a == -1 then (b == -1 && c == -1) else (decide (0 ≤ a ∧ a < kf) && (b == -1 || decide (0 ≤ b ∧ b < kl)) && (c == -1 || decide (0 ≤ c ∧ c < kl)))
set_option maxHeartbeats 4000000 in
set_option maxRecDepth 100000 in
theorem slotFits_any {W : World} {s : SP} {v : Nat → Int} {F : LkF} (h : SPAt W s v F) {j : Nat} (hl : j < s.kl) (hn : j < s.kn) (hp : j < s.kp) :
    Calls Try.prog 73 #[s.val, .int .i64 (j : Int)] W (BoolPost (slotR s.kf s.kl (F.list j) (F.next j) (F.prev j)) W) := by
  obtain ⟨x, hx⟩ : ∃ x : Int, x = F.list j := ⟨_, rfl⟩
  obtain ⟨y, hy⟩ : ∃ y : Int, y = F.next j := ⟨_, rfl⟩
  obtain ⟨z, hz⟩ : ∃ z : Int, z = F.prev j := ⟨_, rfl⟩
  have hbb := (Below.refl W.heap.size W).alloc (Nat.le_refl _) (.cells s.cells 39)
  have HB := Lib.hid hbb
  obtain ⟨gl, ol, el, _, l0⟩ := (h.l.below hbb) j hl
  obtain ⟨gn, on, en, _, n0⟩ := (h.n.below hbb) j hn
  obtain ⟨gp, op, ep, _, p0⟩ := (h.p.below hbb) j hp
  rw [← hx] at l0 ⊢
  rw [← hy] at n0 ⊢
  rw [← hz] at p0 ⊢
  clear hx hy hz hbb h
  have CI := Lib.hid isIndex_any
  obtain ⟨b0, b1, b2, b3, b4, b5⟩ := sp_box W s
  unfold SP.val SP.cells at *
  simp only [el, en, ep] at HB b0 b1 b2 b3 b4 b5 l0 n0 p0 ⊢
  clear el en ep
  generalize s.pv = pv at *; generalize s.pf = pf at *; generalize s.pa = pa at *
  generalize s.kv = kv at *; generalize s.kl = kl at *; generalize s.kn = kn at *; generalize s.kp = kp at *; generalize s.kf = kf at *; generalize s.ka = ka at *
  generalize s.cv = cv at *; generalize s.cl = cl at *; generalize s.cn = cn at *; generalize s.cp = cp at *; generalize s.cf = cf at *; generalize s.ca = ca at *
  have j0 : (0 : Int) ≤ j := by omega
  have j1 : (j : Int) < kl := by omega
  have j2 : (j : Int) < kn := by omega
  have j3 : (j : Int) < kp := by omega
  clear hl hn hp
  obtain ⟨r, hr⟩ : ∃ r, r = slotR kf kl x y z := ⟨_, rfl⟩
  rw [← hr]
  unfold slotR at hr
  cases t1 : (x == -1)
  · cases d1 : decide (0 ≤ x ∧ x < (kf : Int))
    · have C1 := Lib.hid (fun V => CI.out V x pf kf cf)
      rw [d1] at C1
      rw [t1, d1] at hr
      simp only [Bool.and_true, Bool.and_false, Bool.true_and, Bool.false_and, Bool.or_true, Bool.or_false, Bool.true_or, Bool.false_or, if_true, if_false, Bool.false_eq_true] at hr
      subst hr
      clear d1 b0 b5
      go_enter Try.func73, Try.ntmps73
      go_wp2_with fail
      generalize W.alloc (.cells #[.slice pv kv cv, .slice (some ⟨gl, ol, none⟩) kl cl, .slice (some ⟨gn, on, none⟩) kn cn, .slice (some ⟨gp, op, none⟩) kp cp, .slice pf kf cf, .slice pa ka ca] 39) = V at *
      generalize hK : W.heap.size = K at *
      have HK := Lib.hid hK
      clear hK
      go_region
      go_wp2_with fail
      refine (C1.out _).mono ?_
      rintro e w1 ⟨rfl, rfl⟩
      go_wp2_with fail
      go_ret
      exact ⟨rfl, by rw [HK.out]; exact HB.out.drew⟩
    · have C1 := Lib.hid (fun V => CI.out V x pf kf cf)
      rw [d1] at C1
      cases t2 : (y == -1)
      · cases d2 : decide (0 ≤ y ∧ y < (kl : Int))
        · have C2 := Lib.hid (fun V => CI.out V y (some ⟨gl, ol, none⟩) kl cl)
          rw [d2] at C2
          rw [t1, d1, t2, d2] at hr
          simp only [Bool.and_true, Bool.and_false, Bool.true_and, Bool.false_and, Bool.or_true, Bool.or_false, Bool.true_or, Bool.false_or, if_true, if_false, Bool.false_eq_true] at hr
          subst hr
          clear d1 d2 b0 b5
          go_enter Try.func73, Try.ntmps73
          go_wp2_with fail
          generalize W.alloc (.cells #[.slice pv kv cv, .slice (some ⟨gl, ol, none⟩) kl cl, .slice (some ⟨gn, on, none⟩) kn cn, .slice (some ⟨gp, op, none⟩) kp cp, .slice pf kf cf, .slice pa ka ca] 39) = V at *
          generalize hK : W.heap.size = K at *
          have HK := Lib.hid hK
          clear hK
          go_region
          go_wp2_with fail
          refine (C1.out _).mono ?_
          rintro e w1 ⟨rfl, rfl⟩
          go_wp2_with fail
          refine (C2.out _).mono ?_
          rintro e w1 ⟨rfl, rfl⟩
          go_wp2_with fail
          go_ret
          exact ⟨rfl, by rw [HK.out]; exact HB.out.drew⟩
        · have C2 := Lib.hid (fun V => CI.out V y (some ⟨gl, ol, none⟩) kl cl)
          rw [d2] at C2
          cases t3 : (z == -1)
          · cases d3 : decide (0 ≤ z ∧ z < (kl : Int))
            · have C3 := Lib.hid (fun V => CI.out V z (some ⟨gl, ol, none⟩) kl cl)
              rw [d3] at C3
              rw [t1, d1, t2, d2, t3, d3] at hr
              simp only [Bool.and_true, Bool.and_false, Bool.true_and, Bool.false_and, Bool.or_true, Bool.or_false, Bool.true_or, Bool.false_or, if_true, if_false, Bool.false_eq_true] at hr
              subst hr
              clear d1 d2 d3 b0 b5
              go_enter Try.func73, Try.ntmps73
              go_wp2_with fail
              generalize W.alloc (.cells #[.slice pv kv cv, .slice (some ⟨gl, ol, none⟩) kl cl, .slice (some ⟨gn, on, none⟩) kn cn, .slice (some ⟨gp, op, none⟩) kp cp, .slice pf kf cf, .slice pa ka ca] 39) = V at *
              generalize hK : W.heap.size = K at *
              have HK := Lib.hid hK
              clear hK
              go_region
              go_wp2_with fail
              refine (C1.out _).mono ?_
              rintro e w1 ⟨rfl, rfl⟩
              go_wp2_with fail
              refine (C2.out _).mono ?_
              rintro e w1 ⟨rfl, rfl⟩
              go_wp2_with fail
              refine (C3.out _).mono ?_
              rintro e w1 ⟨rfl, rfl⟩
              go_wp2_with fail
              go_ret
              exact ⟨rfl, by rw [HK.out]; exact HB.out.drew⟩
            · have C3 := Lib.hid (fun V => CI.out V z (some ⟨gl, ol, none⟩) kl cl)
              rw [d3] at C3
              rw [t1, d1, t2, d2, t3, d3] at hr
              simp only [Bool.and_true, Bool.and_false, Bool.true_and, Bool.false_and, Bool.or_true, Bool.or_false, Bool.true_or, Bool.false_or, if_true, if_false, Bool.false_eq_true] at hr
              subst hr
              clear d1 d2 d3 b0 b5
              go_enter Try.func73, Try.ntmps73
              go_wp2_with fail
              generalize W.alloc (.cells #[.slice pv kv cv, .slice (some ⟨gl, ol, none⟩) kl cl, .slice (some ⟨gn, on, none⟩) kn cn, .slice (some ⟨gp, op, none⟩) kp cp, .slice pf kf cf, .slice pa ka ca] 39) = V at *
              generalize hK : W.heap.size = K at *
              have HK := Lib.hid hK
              clear hK
              go_region
              go_wp2_with fail
              refine (C1.out _).mono ?_
              rintro e w1 ⟨rfl, rfl⟩
              go_wp2_with fail
              refine (C2.out _).mono ?_
              rintro e w1 ⟨rfl, rfl⟩
              go_wp2_with fail
              refine (C3.out _).mono ?_
              rintro e w1 ⟨rfl, rfl⟩
              go_wp2_with fail
              go_ret
              exact ⟨rfl, by rw [HK.out]; exact HB.out.drew⟩
          · rw [t1, d1, t2, d2, t3] at hr
            simp only [Bool.and_true, Bool.and_false, Bool.true_and, Bool.false_and, Bool.or_true, Bool.or_false, Bool.true_or, Bool.false_or, if_true, if_false, Bool.false_eq_true] at hr
            subst hr
            clear d1 d2 b0 b5
            go_enter Try.func73, Try.ntmps73
            go_wp2_with fail
            generalize W.alloc (.cells #[.slice pv kv cv, .slice (some ⟨gl, ol, none⟩) kl cl, .slice (some ⟨gn, on, none⟩) kn cn, .slice (some ⟨gp, op, none⟩) kp cp, .slice pf kf cf, .slice pa ka ca] 39) = V at *
            generalize hK : W.heap.size = K at *
            have HK := Lib.hid hK
            clear hK
            go_region
            go_wp2_with fail
            refine (C1.out _).mono ?_
            rintro e w1 ⟨rfl, rfl⟩
            go_wp2_with fail
            refine (C2.out _).mono ?_
            rintro e w1 ⟨rfl, rfl⟩
            go_wp2_with fail
            go_ret
            exact ⟨rfl, by rw [HK.out]; exact HB.out.drew⟩
      · cases t3 : (z == -1)
        · cases d3 : decide (0 ≤ z ∧ z < (kl : Int))
          · have C3 := Lib.hid (fun V => CI.out V z (some ⟨gl, ol, none⟩) kl cl)
            rw [d3] at C3
            rw [t1, d1, t2, t3, d3] at hr
            simp only [Bool.and_true, Bool.and_false, Bool.true_and, Bool.false_and, Bool.or_true, Bool.or_false, Bool.true_or, Bool.false_or, if_true, if_false, Bool.false_eq_true] at hr
            subst hr
            clear d1 d3 b0 b5
            go_enter Try.func73, Try.ntmps73
            go_wp2_with fail
            generalize W.alloc (.cells #[.slice pv kv cv, .slice (some ⟨gl, ol, none⟩) kl cl, .slice (some ⟨gn, on, none⟩) kn cn, .slice (some ⟨gp, op, none⟩) kp cp, .slice pf kf cf, .slice pa ka ca] 39) = V at *
            generalize hK : W.heap.size = K at *
            have HK := Lib.hid hK
            clear hK
            go_region
            go_wp2_with fail
            refine (C1.out _).mono ?_
            rintro e w1 ⟨rfl, rfl⟩
            go_wp2_with fail
            refine (C3.out _).mono ?_
            rintro e w1 ⟨rfl, rfl⟩
            go_wp2_with fail
            go_ret
            exact ⟨rfl, by rw [HK.out]; exact HB.out.drew⟩
          · have C3 := Lib.hid (fun V => CI.out V z (some ⟨gl, ol, none⟩) kl cl)
            rw [d3] at C3
            rw [t1, d1, t2, t3, d3] at hr
            simp only [Bool.and_true, Bool.and_false, Bool.true_and, Bool.false_and, Bool.or_true, Bool.or_false, Bool.true_or, Bool.false_or, if_true, if_false, Bool.false_eq_true] at hr
            subst hr
            clear d1 d3 b0 b5
            go_enter Try.func73, Try.ntmps73
            go_wp2_with fail
            generalize W.alloc (.cells #[.slice pv kv cv, .slice (some ⟨gl, ol, none⟩) kl cl, .slice (some ⟨gn, on, none⟩) kn cn, .slice (some ⟨gp, op, none⟩) kp cp, .slice pf kf cf, .slice pa ka ca] 39) = V at *
            generalize hK : W.heap.size = K at *
            have HK := Lib.hid hK
            clear hK
            go_region
            go_wp2_with fail
            refine (C1.out _).mono ?_
            rintro e w1 ⟨rfl, rfl⟩
            go_wp2_with fail
            refine (C3.out _).mono ?_
            rintro e w1 ⟨rfl, rfl⟩
            go_wp2_with fail
            go_ret
            exact ⟨rfl, by rw [HK.out]; exact HB.out.drew⟩
        · rw [t1, d1, t2, t3] at hr
          simp only [Bool.and_true, Bool.and_false, Bool.true_and, Bool.false_and, Bool.or_true, Bool.or_false, Bool.true_or, Bool.false_or, if_true, if_false, Bool.false_eq_true] at hr
          subst hr
          clear d1 b0 b5
          go_enter Try.func73, Try.ntmps73
          go_wp2_with fail
          generalize W.alloc (.cells #[.slice pv kv cv, .slice (some ⟨gl, ol, none⟩) kl cl, .slice (some ⟨gn, on, none⟩) kn cn, .slice (some ⟨gp, op, none⟩) kp cp, .slice pf kf cf, .slice pa ka ca] 39) = V at *
          generalize hK : W.heap.size = K at *
          have HK := Lib.hid hK
          clear hK
          go_region
          go_wp2_with fail
          refine (C1.out _).mono ?_
          rintro e w1 ⟨rfl, rfl⟩
          go_wp2_with fail
          go_ret
          exact ⟨rfl, by rw [HK.out]; exact HB.out.drew⟩
  · cases t2 : (y == -1)
    · rw [t1, t2] at hr
      simp only [Bool.and_true, Bool.and_false, Bool.true_and, Bool.false_and, Bool.or_true, Bool.or_false, Bool.true_or, Bool.false_or, if_true, if_false, Bool.false_eq_true] at hr
      subst hr
      clear b0 b5
      go_enter Try.func73, Try.ntmps73
      go_wp2_with fail
      generalize W.alloc (.cells #[.slice pv kv cv, .slice (some ⟨gl, ol, none⟩) kl cl, .slice (some ⟨gn, on, none⟩) kn cn, .slice (some ⟨gp, op, none⟩) kp cp, .slice pf kf cf, .slice pa ka ca] 39) = V at *
      generalize hK : W.heap.size = K at *
      have HK := Lib.hid hK
      clear hK
      go_region
      go_wp2_with fail
      go_ret
      exact ⟨rfl, by rw [HK.out]; exact HB.out.drew⟩
    · cases t3 : (z == -1)
      · rw [t1, t2, t3] at hr
        simp only [Bool.and_true, Bool.and_false, Bool.true_and, Bool.false_and, Bool.or_true, Bool.or_false, Bool.true_or, Bool.false_or, if_true, if_false, Bool.false_eq_true] at hr
        subst hr
        clear b0 b5
        go_enter Try.func73, Try.ntmps73
        go_wp2_with fail
        generalize W.alloc (.cells #[.slice pv kv cv, .slice (some ⟨gl, ol, none⟩) kl cl, .slice (some ⟨gn, on, none⟩) kn cn, .slice (some ⟨gp, op, none⟩) kp cp, .slice pf kf cf, .slice pa ka ca] 39) = V at *
        generalize hK : W.heap.size = K at *
        have HK := Lib.hid hK
        clear hK
        go_region
        go_wp2_with fail
        go_ret
        exact ⟨rfl, by rw [HK.out]; exact HB.out.drew⟩
      · rw [t1, t2, t3] at hr
        simp only [Bool.and_true, Bool.and_false, Bool.true_and, Bool.false_and, Bool.or_true, Bool.or_false, Bool.true_or, Bool.false_or, if_true, if_false, Bool.false_eq_true] at hr
        subst hr
        clear b0 b5
        go_enter Try.func73, Try.ntmps73
        go_wp2_with fail
        generalize W.alloc (.cells #[.slice pv kv cv, .slice (some ⟨gl, ol, none⟩) kl cl, .slice (some ⟨gn, on, none⟩) kn cn, .slice (some ⟨gp, op, none⟩) kp cp, .slice pf kf cf, .slice pa ka ca] 39) = V at *
        generalize hK : W.heap.size = K at *
        have HK := Lib.hid hK
        clear hK
        go_region
        go_wp2_with fail
        go_ret
        exact ⟨rfl, by rw [HK.out]; exact HB.out.drew⟩
end Go.Proofs.Ytmelcohfjonjfaa
