/- links: Take, Move. -/
import Derived.Test.YtnbniflljbbpbaaLkTake
namespace Go.Proofs.Ytnbniflljbbpbaa
open Go.RowKit

def takeX (n m : Nat) (v : Nat → Int) (of : Nat → List Nat) (x : Int) : LkX :=
  if slotW n m of x = 0 then (let i := (whr m of x.toNat).toNat; ⟨TwoI (v x.toNat) 0, updF v x.toNat 0, setOf of i (bef x.toNat (of i) ++ beh x.toNat (of i))⟩) else ⟨TwoI 0 4, v, of⟩
set_option maxHeartbeats 2000000 in
set_option maxRecDepth 100000 in
theorem take_any {W : World} {B n m : Nat} {D : LkB} {v : Nat → Int} {of : Nat → List Nat} (h : PoolS W B n m D v of) (x : Int) :
    Calls Try.prog 29 #[.pointer (some ⟨B, 0, none⟩), .int .i64 x] W (StPost B n m D (takeX n m v of x) W) := by
  obtain ⟨F, hp, hr⟩ := h
  have C := checkSlot_any hp x
  rw [slotE_eq hr] at C
  have C := Lib.hid C
  unfold takeX
  rcases slotW_cases n m of x with e | ⟨e, k, i, rfl, hk, ew, hi, hs⟩
  · rw [e] at C ⊢
    rw [if_neg (by decide)]
    have H := Lib.hid hp
    have HR := Lib.hid hr
    clear hp hr e
    go_enter Try.func29, Try.ntmps29
    go_wp2_with fail
    refine C.out.mono ?_
    rintro e w1 ⟨rfl, rfl⟩
    go_wp2_with fail
    go_ret2
    exact ⟨rfl, ⟨F, H.out, HR.out⟩, BelowS.refl _ _ _⟩
  · rw [e] at C ⊢
    rw [if_pos rfl, toNat_cast]
    simp only
    rw [ew, toNat_cast]
    have CW := Lib.hid (wipe_any hp k hk)
    have CU := Lib.hid (fun (w1 : World) (P : PoolAt w1 B n m D (updF v k 0) F) => unlink_st P hr hi hs)
    generalize setOf of i (bef k (of i) ++ beh k (of i)) = of' at CU ⊢
    obtain ⟨c0, c1, c2, c3, c4, c5, c6⟩ := hp.cells
    obtain ⟨l1, _⟩ := hp.rv.get hk
    generalize v k = y at l1 ⊢
    have k0 : (0 : Int) ≤ k := by omega
    have k1 : (k : Int) < n := by omega
    clear hp hr e hk hi hs ew
    go_enter Try.func29, Try.ntmps29
    go_wp2_with fail
    refine C.out.mono ?_
    rintro e w1 ⟨rfl, rfl⟩
    go_wp2_with fail
    refine CW.out.mono ?_
    rintro e w2 ⟨rfl, P, B1⟩
    have CU := Lib.hid (CU.out _ P)
    have HB := Lib.hid B1
    clear P B1 c0 c1 c2 c3 c4 c5 c6 l1
    go_wp2_with fail
    refine CU.out.mono ?_
    rintro e w3 ⟨rfl, P, B2⟩
    go_wp2_with fail
    go_ret2
    exact ⟨rfl, P, HB.out.to B2 (Nat.le_refl _)⟩
theorem free_del {n m : Nat} {of : Nat → List Nat} {F : LkF} (h : Rep n m of F) {i x : Nat} {l r : List Nat} (hi : i < m) (hs : of i = l ++ x :: r) : ∀ j, j < m → x ∉ setOf of i (l ++ r) j := by
  intro j hj
  unfold setOf
  by_cases e : j = i
  · rw [if_pos e]
    exact (nodup_del (hs ▸ h.nodup i hi)).2
  · rw [if_neg e]
    exact h.disj i j hi hj (fun e2 => e e2.symm) x (by rw [hs]; simp)
theorem link_st {W : World} {B n m : Nat} {D : LkB} {v : Nat → Int} {of : Nat → List Nat} {F : LkF} (h : PoolAt W B n m D v F) (hr : Rep n m of F) {i x : Nat} (hi : i < m) (hx : x < n) (hf : ∀ j, j < m → x ∉ of j) {l r : List Nat} (hs : of i = l ++ r) :
    Calls Try.prog 65 #[.pointer (some ⟨B, 0, none⟩), .int .i64 (x : Int), .int .i64 (i : Int), .int .i64 (lst l)] W (UnPost B n m D v (setOf of i (l ++ x :: r)) W) := by
  obtain ⟨a1, a2, a3⟩ := rep_at hr hi hs
  refine (link_any h x hx i hi (lst l) a1 (by rw [a2]; exact a3)).mono ?_
  rintro e w1 ⟨rfl, P, Bw⟩
  exact ⟨rfl, ⟨_, P, rep_link hr hi hx hf hs⟩, Bw⟩
def movedOf (of : Nat → List Nat) (x l : Nat) (front : Bool) : Nat → List Nat := setOf of l (if front then x :: of l else of l ++ [x])
def moveX (n m : Nat) (v : Nat → Int) (of : Nat → List Nat) (x l : Int) (front : Bool) : LkX :=
  if slotW n m of x = 0 then (if listE m l = 0 then (let i := (whr m of x.toNat).toNat; ⟨.int .i64 0, v, movedOf (setOf of i (bef x.toNat (of i) ++ beh x.toNat (of i))) x.toNat l.toNat front⟩) else ⟨.int .i64 7, v, of⟩) else ⟨.int .i64 4, v, of⟩
/-- The two calls that end Move: what comes before the place, and the linking. -/
theorem move_end {W : World} {B n m : Nat} {D : LkB} {v : Nat → Int} {of : Nat → List Nat} (h : PoolS W B n m D v of) {x l : Nat} (hx : x < n) (hl : l < m) (hf : ∀ j, j < m → x ∉ of j) (front : Bool) :
    ∃ b : Int, Calls Try.prog 43 #[.pointer (some ⟨B, 0, none⟩), .int .i64 (l : Int), .bool front] W (OkEq (.int .i64 b) W) ∧ Calls Try.prog 65 #[.pointer (some ⟨B, 0, none⟩), .int .i64 (x : Int), .int .i64 (l : Int), .int .i64 b] W (UnPost B n m D v (movedOf of x l front) W) := by
  obtain ⟨F, hp, hr⟩ := h
  refine ⟨_, before_any hp l hl front, ?_⟩
  unfold movedOf
  cases front
  · have := link_st hp hr hl hx hf (l := of l) (r := []) (List.append_nil _).symm
    rw [← (hr.ends l hl).2] at this
    exact this
  · exact link_st hp hr hl hx hf (l := []) (r := of l) rfl
set_option maxHeartbeats 2000000 in
set_option maxRecDepth 100000 in
theorem move_any {W : World} {B n m : Nat} {D : LkB} {v : Nat → Int} {of : Nat → List Nat} (h : PoolS W B n m D v of) (x l : Int) (front : Bool) :
    Calls Try.prog 31 #[.pointer (some ⟨B, 0, none⟩), .int .i64 x, .int .i64 l, .bool front] W (StPost B n m D (moveX n m v of x l front) W) := by
  obtain ⟨F, hp, hr⟩ := h
  have C := checkSlot_any hp x
  have CL := Lib.hid (checkList_any hp l)
  rw [slotE_eq hr] at C
  have C := Lib.hid C
  unfold moveX
  rcases slotW_cases n m of x with e | ⟨e, k, i, rfl, hk, ew, hi, hs⟩
  · rw [e] at C ⊢
    rw [if_neg (by decide)]
    have H := Lib.hid hp
    have HR := Lib.hid hr
    clear hp hr e CL
    go_enter Try.func31, Try.ntmps31
    go_wp2_with fail
    refine C.out.mono ?_
    rintro e w1 ⟨rfl, rfl⟩
    go_wp2_with fail
    go_ret
    exact ⟨rfl, ⟨F, H.out, HR.out⟩, BelowS.refl _ _ _⟩
  · rw [e] at C ⊢
    rw [if_pos rfl, toNat_cast]
    rcases listE_cases m l with ⟨e2, _⟩ | ⟨e2, j, rfl, hj⟩
    · rw [e2] at CL ⊢
      rw [if_neg (by decide)]
      have H := Lib.hid hp
      have HR := Lib.hid hr
      clear hp hr e e2 ew hi hs
      go_enter Try.func31, Try.ntmps31
      go_wp2_with fail
      refine C.out.mono ?_
      rintro e w1 ⟨rfl, rfl⟩
      go_wp2_with fail
      refine CL.out.mono ?_
      rintro e w1 ⟨rfl, rfl⟩
      go_wp2_with fail
      go_ret
      exact ⟨rfl, ⟨F, H.out, HR.out⟩, BelowS.refl _ _ _⟩
    · rw [e2] at CL ⊢
      rw [if_pos rfl, toNat_cast]
      simp only
      rw [ew, toNat_cast]
      have hf := free_del hr hi hs
      have CU := Lib.hid (unlink_st hp hr hi hs)
      generalize setOf of i (bef k (of i) ++ beh k (of i)) = of' at CU hf ⊢
      have CM := Lib.hid (fun (w1 : World) (P : PoolS w1 B n m D v of') => move_end P hk hj hf front)
      clear hp hr e e2 hk hi hs ew hf hj
      go_enter Try.func31, Try.ntmps31
      go_wp2_with fail
      refine C.out.mono ?_
      rintro e w1 ⟨rfl, rfl⟩
      go_wp2_with fail
      refine CL.out.mono ?_
      rintro e w1 ⟨rfl, rfl⟩
      go_wp2_with fail
      refine CU.out.mono ?_
      rintro e w2 ⟨rfl, P, B1⟩
      obtain ⟨b, CB, CK⟩ := CM.out _ P
      have CB := Lib.hid CB
      have CK := Lib.hid CK
      have HB := Lib.hid B1
      clear P B1 CM
      go_wp2_with fail
      refine CB.out.mono ?_
      rintro e w3 ⟨rfl, rfl⟩
      go_wp2_with fail
      refine CK.out.mono ?_
      rintro e w4 ⟨rfl, P, B2⟩
      go_wp2_with fail
      go_ret
      exact ⟨rfl, P, HB.out.to B2 (Nat.le_refl _)⟩
end Go.Proofs.Ytnbniflljbbpbaa
