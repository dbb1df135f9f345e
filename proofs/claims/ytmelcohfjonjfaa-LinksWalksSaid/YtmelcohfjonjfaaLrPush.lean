/- links: the reference's Push, After. -/
import Derived.Test.YtmelcohfjonjfaaLrPut
namespace Go.Proofs.Ytmelcohfjonjfaa
open Go.RowKit

/-- What a call of the reference leaves. -/
def RPost (K : Nat → Prop) (C g gv cg cv n m : Nat) (x : LkX) (W : World) (e : Ending) (W' : World) : Prop := e = .returned x.r ∧ LsAt K W' C g gv cg cv n m x.v x.of ∧ BelowS (LsS g gv) W.heap.size W W'
theorem LsAt.setVal {K : Nat → Prop} {W : World} {C g gv cg cv n m base : Nat} {v : Nat → Int} {of : Nat → List Nat} (h : LsAt K W C g gv cg cv n m v of) (hk : KOk K base C g gv) {j : Nat} (hj : j < n) (z : Int) :
    LsAt K (W.setCell ⟨gv, j, none⟩ (.int .i64 z)) C g gv cg cv n m (updF v j z) of := by
  obtain ⟨n1, n2, n3⟩ := h.ne
  have ho : ∀ k, k ≠ gv → (W.setCell ⟨gv, j, none⟩ (.int .i64 z)).heap[k]? = W.heap[k]? := fun k e => Below.heap_setCell _ _ _ _ e
  have hsz : (W.setCell ⟨gv, j, none⟩ (.int .i64 z)).heap.size = W.heap.size := by simp [World.setCell]
  obtain ⟨cur, r1, r2, r3⟩ := h.rows
  refine ⟨(ho C n2).trans h.box, ⟨cur, (ho g n3).trans r1, r2, fun i hi => ?_⟩, h.vals.set hj z, h.ne⟩
  obtain ⟨u, hu, hs⟩ := r3 i hi
  exact ⟨u, hu, hs.keep (by rw [hsz]; exact Nat.le_refl _) (fun q hq _ => ho q (fun e => hk.nv (e ▸ hq)))⟩
theorem belowV {g gv j : Nat} {D : Nat} {W W1 : World} (hb : BelowS (LsS g gv) D W W1) (u : Value) : BelowS (LsS g gv) D W (W1.setCell ⟨gv, j, none⟩ u) := hb.cell (show LsS g gv gv from .inr rfl) j u
/-- What is known of the reference's lists at a call. -/
structure LrSt (K : Nat → Prop) (base : Nat) (W : World) (C g gv cg cv n m : Nat) (v : Nat → Int) (of : Nat → List Nat) : Prop where
  at_ : LsAt K W C g gv cg cv n m v of
  ok : KOk K base C g gv
  bs : base ≤ W.heap.size
  nn : 1 ≤ n ∧ n ≤ 2000
  mm : 1 ≤ m ∧ m ≤ 64
  rep : ∃ F, Rep n m of F
theorem LrSt.len {K : Nat → Prop} {base : Nat} {W : World} {C g gv cg cv n m : Nat} {v : Nat → Int} {of : Nat → List Nat} (h : LrSt K base W C g gv cg cv n m v of) {i : Nat} (hi : i < m) : (of i).length ≤ 2000 := by
  obtain ⟨F, hr⟩ := h.rep
  exact Nat.le_trans (find_lt hr hi) h.nn.2
theorem put_at {K : Nat → Prop} {base : Nat} {W : World} {C g gv cg cv n m : Nat} {v : Nat → Int} {of : Nat → List Nat} (h : LrSt K base W C g gv cg cv n m v of) {i : Nat} (hi : i < m) {l r : List Nat} (hs : of i = l ++ r) (x : Nat) :
    Calls Try.prog 66 #[.pointer (some ⟨C, 0, none⟩), .int .i64 (i : Int), .int .i64 ((l.length : Nat) : Int), .int .i64 (x : Int)] W (LsPost K C g gv cg cv n m v (setOf of i (l ++ x :: r)) W) := by
  have hl := h.len hi
  rw [hs] at hl
  have := put_any2 h.at_ h.ok h.bs hi (by have := h.mm.2; omega) (k := l.length) (L := l ++ r) hs (by simp) hl x
  simpa using this
theorem cut_at2 {K : Nat → Prop} {base : Nat} {W : World} {C g gv cg cv n m : Nat} {v : Nat → Int} {of : Nat → List Nat} (h : LrSt K base W C g gv cg cv n m v of) {i : Nat} (hi : i < m) {l r : List Nat} {x : Nat} (hs : of i = l ++ x :: r) :
    Calls Try.prog 64 #[.pointer (some ⟨C, 0, none⟩), .int .i64 (i : Int), .int .i64 ((l.length : Nat) : Int)] W (LsPost K C g gv cg cv n m v (setOf of i (l ++ r)) W) := by
  have hl := h.len hi
  rw [hs] at hl
  have := cut_any h.at_ h.ok h.bs hi (by have := h.mm.2; omega) (k := l.length) (L := l ++ x :: r) hs (by simp) hl
  have e : (l ++ x :: r).take l.length ++ (l ++ x :: r).drop (l.length + 1) = l ++ r := by
    rw [List.take_left' rfl, ← List.drop_drop, List.drop_left' rfl]; rfl
  rw [e] at this
  exact this
theorem free_at {K : Nat → Prop} {base : Nat} {W : World} {C g gv cg cv n m : Nat} {v : Nat → Int} {of : Nat → List Nat} (h : LrSt K base W C g gv cg cv n m v of) :
    Calls Try.prog 71 #[.pointer (some ⟨C, 0, none⟩)] W (OkEq (.int .i64 (freeS n m of)) W) := by
  obtain ⟨F, hr⟩ := h.rep
  exact rfree_any h.at_ hr h.nn.2 h.mm.2
theorem find_at {K : Nat → Prop} {base : Nat} {W : World} {C g gv cg cv n m : Nat} {v : Nat → Int} {of : Nat → List Nat} (h : LrSt K base W C g gv cg cv n m v of) (x : Int) :
    Calls Try.prog 61 #[.pointer (some ⟨C, 0, none⟩), .int .i64 x] W (OkEq (TwoI (findR of x 0 m).1 (findR of x 0 m).2) W) :=
  find_any h.at_ (by have := h.mm.2; omega) (fun i hi => Nat.le_trans (h.len hi) (by decide)) x
theorem find_is {K : Nat → Prop} {base : Nat} {W : World} {C g gv cg cv n m : Nat} {v : Nat → Int} {of : Nat → List Nat} (h : LrSt K base W C g gv cg cv n m v of) (x : Int) :
    (slotW n m of x = 4 ∧ findR of x 0 m = (-1, -1)) ∨
    (slotW n m of x = 0 ∧ ∃ k i : Nat, x = (k : Int) ∧ k < n ∧ whr m of k = (i : Int) ∧ i < m ∧ of i = bef k (of i) ++ k :: beh k (of i) ∧ findR of x 0 m = ((i : Int), (((bef k (of i)).length : Nat) : Int))) := by
  obtain ⟨F, hr⟩ := h.rep
  exact find_cases hr x
set_option maxHeartbeats 4000000 in
set_option maxRecDepth 100000 in
theorem rpush_any {K : Nat → Prop} {base : Nat} {W : World} {C g gv cg cv n m : Nat} {v : Nat → Int} {of : Nat → List Nat} (h : LrSt K base W C g gv cg cv n m v of) (l z : Int) (front : Bool) :
    Calls Try.prog 54 #[.pointer (some ⟨C, 0, none⟩), .int .i64 l, .int .i64 z, .bool front] W (RPost K C g gv cg cv n m (pushX n m v of l z front) W) := by
  obtain ⟨c0, c1, c2⟩ := h.at_.cells
  have H := Lib.hid h
  unfold pushX
  by_cases h1 : l < 0
  · rw [show listE m l = 7 from if_pos (.inl h1), if_neg (by decide)]
    clear h
    go_enter Try.func54, Try.ntmps54
    go_wp2_with fail
    go_ret2
    exact ⟨rfl, H.out.at_, BelowS.refl _ _ _⟩
  · by_cases h2 : (m : Int) ≤ l
    · rw [show listE m l = 7 from if_pos (.inr h2), if_neg (by decide)]
      clear h
      go_enter Try.func54, Try.ntmps54
      go_wp2_with fail
      go_ret2
      exact ⟨rfl, H.out.at_, BelowS.refl _ _ _⟩
    · rw [show listE m l = 0 from if_neg (by omega), if_pos rfl]
      obtain ⟨k, rfl⟩ : ∃ k : Nat, l = (k : Int) := ⟨l.toNat, by omega⟩
      rw [toNat_cast]
      have hk : k < m := by omega
      have CF := Lib.hid (free_at h)
      rcases freeS_cases n m of with e | ⟨s, e, hs, _⟩
      · have hfull : (if front = true then fillX n m v of z k [] (of k) else fillX n m v of z k (of k) []) = ⟨TwoI 0 5, v, of⟩ := by
          unfold fillX; rw [e]; cases front <;> rfl
        rw [hfull]
        rw [e] at CF
        clear h e hfull
        go_enter Try.func54, Try.ntmps54
        go_wp2_with fail
        refine CF.out.mono ?_
        rintro e w1 ⟨rfl, rfl⟩
        go_wp2_with fail
        go_ret2
        exact ⟨rfl, H.out.at_, BelowS.refl _ _ _⟩
      · rw [e] at CF
        have s0 : (0 : Int) ≤ s := by omega
        have s1 : ¬ (s : Int) < 0 := by omega
        have s2 : (s : Int) < n := by omega
        cases front
        · have CE := Lib.hid (rend_any h.at_ hk false)
          have CP := put_at h hk (l := of k) (r := []) (List.append_nil _).symm s
          have hX : (if false = true then fillX n m v of z k [] (of k) else fillX n m v of z k (of k) []) = ⟨TwoI (s : Int) 0, updF v s z, setOf of k (of k ++ s :: [])⟩ := by
            unfold fillX; rw [e, if_neg (ne_none s), toNat_cast]; rfl
          rw [hX]
          rw [show (if false = true then (0 : Int) else ((of k).length : Int)) = ((of k).length : Int) from rfl] at CE
          generalize hN : (((of k).length : Nat) : Int) = N at CE CP
          have CP := Lib.hid CP
          clear h e hX hN
          go_enter Try.func54, Try.ntmps54
          go_wp2_with fail
          refine CF.out.mono ?_
          rintro e w1 ⟨rfl, rfl⟩
          go_wp2_with fail
          refine CE.out.mono ?_
          rintro e w2 ⟨rfl, rfl⟩
          go_wp2_with fail
          refine CP.out.mono ?_
          rintro e w3 ⟨rfl, P, Bw⟩
          obtain ⟨d0, d1, d2⟩ := P.cells
          obtain ⟨y0, y1⟩ := P.vals.get hs
          have HP := Lib.hid (P.setVal H.out.ok hs z); have HB := Lib.hid (belowV (j := s) Bw (.int .i64 z))
          clear P Bw c0 c1 c2
          go_wp2_with fail
          go_ret2
          exact ⟨rfl, HP.out, HB.out⟩
        · have CE := Lib.hid (rend_any h.at_ hk true)
          have CP := Lib.hid (show Calls Try.prog 66 #[.pointer (some ⟨C, 0, none⟩), .int .i64 (k : Int), .int .i64 0, .int .i64 (s : Int)] W (LsPost K C g gv cg cv n m v (setOf of k ([] ++ s :: of k)) W) from put_at h hk (l := []) (r := of k) rfl s)
          have hX : (if true = true then fillX n m v of z k [] (of k) else fillX n m v of z k (of k) []) = ⟨TwoI (s : Int) 0, updF v s z, setOf of k ([] ++ s :: of k)⟩ := by
            unfold fillX; rw [e, if_neg (ne_none s), toNat_cast]; rfl
          rw [hX]
          rw [show (if true = true then (0 : Int) else ((of k).length : Int)) = 0 from rfl] at CE
          clear h e hX
          go_enter Try.func54, Try.ntmps54
          go_wp2_with fail
          refine CF.out.mono ?_
          rintro e w1 ⟨rfl, rfl⟩
          go_wp2_with fail
          refine CE.out.mono ?_
          rintro e w2 ⟨rfl, rfl⟩
          go_wp2_with fail
          refine CP.out.mono ?_
          rintro e w3 ⟨rfl, P, Bw⟩
          obtain ⟨d0, d1, d2⟩ := P.cells
          obtain ⟨y0, y1⟩ := P.vals.get hs
          have HP := Lib.hid (P.setVal H.out.ok hs z); have HB := Lib.hid (belowV (j := s) Bw (.int .i64 z))
          clear P Bw c0 c1 c2
          go_wp2_with fail
          go_ret2
          exact ⟨rfl, HP.out, HB.out⟩
end Go.Proofs.Ytmelcohfjonjfaa
