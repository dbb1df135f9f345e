/- links: After, Take, Move. -/
import Derived.Test.YtnbniflljbbpbaaLkPush
namespace Go.Proofs.Ytnbniflljbbpbaa
open Go.RowKit

def bef (x : Nat) : List Nat → List Nat
  | [] => []
  | a :: t => if a = x then [] else a :: bef x t
def beh (x : Nat) : List Nat → List Nat
  | [] => []
  | a :: t => if a = x then t else beh x t
theorem cut_at {x : Nat} : ∀ {l : List Nat}, x ∈ l → l = bef x l ++ x :: beh x l
  | [], h => by cases h
  | a :: t, h => by
    unfold bef beh
    by_cases e : a = x
    · rw [if_pos e, if_pos e, e]; rfl
    · rw [if_neg e, if_neg e, List.cons_append, ← cut_at (by rcases List.mem_cons.1 h with h | h; exact absurd h.symm e; exact h)]
theorem lst_snoc (l : List Nat) (x : Nat) : lst (l ++ [x]) = (x : Int) := by rw [lst_append, if_neg (by simp)]; rfl
/-- What unlink asks, at a slot of a list. -/
theorem rep_mid {n m : Nat} {of : Nat → List Nat} {F : LkF} (h : Rep n m of F) {i x : Nat} {l r : List Nat} (hi : i < m) (hs : of i = l ++ x :: r) :
    F.list x = (i : Int) ∧ SlotOr n (F.prev x) ∧ SlotOr n (F.next x) ∧ F.prev x ≠ (x : Int) ∧ F.next x ≠ (x : Int) ∧ x < n := by
  have hnd : (l ++ x :: r).Nodup := hs ▸ h.nodup i hi
  have hm : x ∈ of i := by rw [hs]; simp
  obtain ⟨_, hno⟩ := nodup_del hnd
  obtain ⟨e1, e2, e3⟩ := h.used i hi x hm
  have hxl : x ∉ l := fun e => hno (List.mem_append_left _ e)
  have hxr : x ∉ r := fun e => hno (List.mem_append_right _ e)
  have p : F.prev x = lst l := by rw [e3, hs, pv_first hnd (List.mem_cons_self ..) rfl]
  have q : F.next x = hd r := by
    rw [e2, hs, nx_append hnd, if_neg hxl]
    show (if x = x then _ else _) = _
    rw [if_pos rfl]
  have a1 := rep_at h hi hs
  have a2 := rep_at h hi (l := l ++ [x]) (r := r) (by rw [hs]; simp)
  refine ⟨e1, p ▸ a1.1, q ▸ a2.2.2, ?_, ?_, h.lt i hi x hm⟩
  · rw [p]
    intro e
    by_cases hl : l = []
    · rw [hl] at e; have : (-1 : Int) = x := e; omega
    · obtain ⟨b, hb, eb⟩ := lst_mem hl
      rw [eb] at e
      obtain rfl : b = x := by omega
      exact hxl hb
  · rw [q]
    intro e
    by_cases hl : r = []
    · rw [hl] at e; have : (-1 : Int) = x := e; omega
    · obtain ⟨b, hb, eb⟩ := hd_mem hl
      rw [eb] at e
      obtain rfl : b = x := by omega
      exact hxr hb
def UnPost (B n m : Nat) (D : LkB) (v : Nat → Int) (of : Nat → List Nat) (W : World) (e : Ending) (W' : World) : Prop := e = .returned (.tuple #[]) ∧ PoolS W' B n m D v of ∧ BelowS D.S W.heap.size W W'
theorem unlink_st {W : World} {B n m : Nat} {D : LkB} {v : Nat → Int} {of : Nat → List Nat} {F : LkF} (h : PoolAt W B n m D v F) (hr : Rep n m of F) {i x : Nat} (hi : i < m) {l r : List Nat} (hs : of i = l ++ x :: r) :
    Calls Try.prog 63 #[.pointer (some ⟨B, 0, none⟩), .int .i64 (x : Int)] W (UnPost B n m D v (setOf of i (l ++ r)) W) := by
  obtain ⟨a1, a2, a3, a4, a5, a6⟩ := rep_mid hr hi hs
  refine (unlink_any h x a6 i hi a1 a2 a3 a4 a5).mono ?_
  rintro e w1 ⟨rfl, P, Bw⟩
  exact ⟨rfl, ⟨_, P, rep_unlink hr hi hs⟩, Bw⟩
theorem slotW_cases (n m : Nat) (of : Nat → List Nat) (x : Int) : slotW n m of x = 4 ∨ (slotW n m of x = 0 ∧ ∃ k i : Nat, x = (k : Int) ∧ k < n ∧ whr m of k = (i : Int) ∧ i < m ∧ of i = bef k (of i) ++ k :: beh k (of i)) := by
  unfold slotW
  by_cases h : x < 0 ∨ (n : Int) ≤ x ∨ whr m of x.toNat = -1
  · exact .inl (if_pos h)
  · rcases whr_cases m of x.toNat with e | ⟨i, e⟩
    · exact absurd (.inr (.inr e)) h
    · obtain ⟨hi, hk⟩ := whr_in e
      exact .inr ⟨if_neg h, x.toNat, i, by omega, by omega, e, hi, cut_at hk⟩
def afterX (n m : Nat) (v : Nat → Int) (of : Nat → List Nat) (x z : Int) : LkX :=
  if slotW n m of x = 0 then (let i := (whr m of x.toNat).toNat; fillX n m v of z i (bef x.toNat (of i) ++ [x.toNat]) (beh x.toNat (of i))) else ⟨TwoI 0 4, v, of⟩
set_option maxHeartbeats 2000000 in
set_option maxRecDepth 100000 in
theorem after_any {W : World} {B n m : Nat} {D : LkB} {v : Nat → Int} {of : Nat → List Nat} (h : PoolS W B n m D v of) (x z : Int) :
    Calls Try.prog 34 #[.pointer (some ⟨B, 0, none⟩), .int .i64 x, .int .i64 z] W (StPost B n m D (afterX n m v of x z) W) := by
  obtain ⟨F, hp, hr⟩ := h
  have C := checkSlot_any hp x
  rw [slotE_eq hr] at C
  have C := Lib.hid C
  unfold afterX
  rcases slotW_cases n m of x with e | ⟨e, k, i, rfl, hk, ew, hi, hs⟩
  · rw [e] at C ⊢
    rw [if_neg (by decide)]
    have H := Lib.hid hp
    have HR := Lib.hid hr
    clear hp hr e
    go_enter Try.func34, Try.ntmps34
    go_wp2_with fail
    refine C.out.mono ?_
    rintro e w1 ⟨rfl, rfl⟩
    go_wp2_with fail
    go_ret2
    exact ⟨rfl, ⟨F, H.out, HR.out⟩, BelowS.refl _ _ _⟩
  · rw [e] at C ⊢
    rw [if_pos rfl, toNat_cast]
    simp only
    rw [ew, toNat_cast]
    have CF := fill_st hp hr hi (l := bef k (of i) ++ [k]) (r := beh k (of i)) (by rw [List.append_assoc]; exact hs) z
    rw [lst_snoc] at CF
    have hX := fillX_two n m v of z i (bef k (of i) ++ [k]) (beh k (of i))
    generalize fillX n m v of z i (bef k (of i) ++ [k]) (beh k (of i)) = X at CF hX ⊢
    have CF := Lib.hid CF
    obtain ⟨c0, c1, c2, c3, c4, c5, c6⟩ := hp.cells
    obtain ⟨l1, _⟩ := hp.rl.get hk
    rw [rep_list hr hk, ew] at l1
    have k0 : (0 : Int) ≤ k := by omega
    have k1 : (k : Int) < n := by omega
    clear hp hr e hk hi hs ew
    go_enter Try.func34, Try.ntmps34
    go_wp2_with fail
    refine C.out.mono ?_
    rintro e w1 ⟨rfl, rfl⟩
    go_wp2_with fail
    refine CF.out.mono ?_
    rintro e w3 ⟨rfl, P, Bw⟩
    obtain ⟨X1, X2, X3⟩ := X
    obtain ⟨a, c, rfl⟩ := hX
    go_wp2_with fail
    go_ret2
    exact ⟨rfl, P, Bw⟩
end Go.Proofs.Ytnbniflljbbpbaa
