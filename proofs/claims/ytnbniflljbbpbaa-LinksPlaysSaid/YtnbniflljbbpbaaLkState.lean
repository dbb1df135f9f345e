/- links: a pool as its values and the lists of its slots. -/
import Derived.Test.YtnbniflljbbpbaaLkFill
namespace Go.Proofs.Ytnbniflljbbpbaa
open Go.RowKit

/-- The list in which a slot is, or -1. -/
def whr (m : Nat) (of : Nat → List Nat) (k : Nat) : Int := match (List.range m).find? (fun i => decide (k ∈ of i)) with
  | some i => (i : Int)
  | none => -1
theorem rep_list {n m : Nat} {of : Nat → List Nat} {F : LkF} (h : Rep n m of F) {k : Nat} (hk : k < n) : F.list k = whr m of k := by
  unfold whr
  cases e : (List.range m).find? (fun i => decide (k ∈ of i)) with
  | some i =>
    have h1 := List.mem_of_find?_eq_some e
    have h2 := List.find?_some e
    exact (h.used i (List.mem_range.1 h1) k (by simpa using h2)).1
  | none =>
    have h2 := List.find?_eq_none.1 e
    exact (h.free k hk (fun i hi hx => h2 i (List.mem_range.2 hi) (by simpa using hx))).1
theorem whr_in {m : Nat} {of : Nat → List Nat} {k i : Nat} (e : whr m of k = (i : Int)) : i < m ∧ k ∈ of i := by
  unfold whr at e
  cases e2 : (List.range m).find? (fun i => decide (k ∈ of i)) with
  | some j =>
    rw [e2] at e
    obtain rfl : j = i := by have : (j : Int) = i := e; omega
    exact ⟨List.mem_range.1 (List.mem_of_find?_eq_some e2), by simpa using List.find?_some e2⟩
  | none => rw [e2] at e; have : (-1 : Int) = i := e; omega
theorem whr_none {m : Nat} {of : Nat → List Nat} {k : Nat} (e : whr m of k = -1) : ∀ i, i < m → k ∉ of i := by
  unfold whr at e
  cases e2 : (List.range m).find? (fun i => decide (k ∈ of i)) with
  | some j => rw [e2] at e; have : (j : Int) = -1 := e; omega
  | none => exact fun i hi hx => List.find?_eq_none.1 e2 i (List.mem_range.2 hi) (by simpa using hx)
theorem whr_cases (m : Nat) (of : Nat → List Nat) (k : Nat) : whr m of k = -1 ∨ ∃ i : Nat, whr m of k = (i : Int) := by
  unfold whr
  cases (List.range m).find? (fun i => decide (k ∈ of i)) with
  | some j => exact .inr ⟨j, rfl⟩
  | none => exact .inl rfl
theorem idxF_congr {f g : Nat → Int} {x : Int} : ∀ {n i : Nat}, (∀ j, i ≤ j → j < i + n → f j = g j) → idxF f x i n = idxF g x i n
  | 0, _, _ => rfl
  | n + 1, i, h => by
    unfold idxF
    rw [h i (Nat.le_refl _) (by omega), idxF_congr (fun j h1 h2 => h j (by omega) (by omega))]
/-- The least free slot, or -1. -/
def freeS (n m : Nat) (of : Nat → List Nat) : Int := idxF (whr m of) (-1) 0 n
theorem fillS_eq {n m : Nat} {of : Nat → List Nat} {F : LkF} (h : Rep n m of F) : fillS n F = freeS n m of :=
  idxF_congr (fun j _ hj => rep_list h (by omega))
theorem freeS_cases (n m : Nat) (of : Nat → List Nat) : freeS n m of = -1 ∨ ∃ k : Nat, freeS n m of = (k : Int) ∧ k < n ∧ ∀ i, i < m → k ∉ of i := by
  rcases idxF_cases (whr m of) (-1) n 0 with ⟨e, _⟩ | ⟨k, e, _, hk, h, _⟩
  · exact .inl e
  · exact .inr ⟨k, e, by omega, whr_none h⟩
def slotW (n m : Nat) (of : Nat → List Nat) (x : Int) : Int := if x < 0 ∨ (n : Int) ≤ x ∨ whr m of x.toNat = -1 then 4 else 0
theorem slotE_eq {n m : Nat} {of : Nat → List Nat} {F : LkF} (h : Rep n m of F) (x : Int) : slotE n F x = slotW n m of x := by
  unfold slotE slotW
  by_cases h1 : x < 0
  · rw [if_pos (.inl h1), if_pos (.inl h1)]
  · by_cases h2 : (n : Int) ≤ x
    · rw [if_pos (.inr (.inl h2)), if_pos (.inr (.inl h2))]
    · rw [rep_list h (by omega)]
/-- Where a list is parted, there one may link. -/
theorem rep_at {n m : Nat} {of : Nat → List Nat} {F : LkF} (h : Rep n m of F) {i : Nat} {l r : List Nat} (hi : i < m) (hs : of i = l ++ r) :
    SlotOr n (lst l) ∧ (if lst l = -1 then F.first i else F.next (lst l).toNat) = hd r ∧ SlotOr n (hd r) := by
  have hnd : (l ++ r).Nodup := hs ▸ h.nodup i hi
  refine ⟨?_, ?_, ?_⟩
  · by_cases hl : l = []
    · exact .inl (lst_none.2 hl)
    · obtain ⟨b, hb, e⟩ := lst_mem hl
      exact .inr ⟨b, e, h.lt i hi b (by rw [hs]; exact List.mem_append_left _ hb)⟩
  · by_cases hl : l = []
    · rw [if_pos (lst_none.2 hl), (h.ends i hi).1, hs, hl]; rfl
    · rw [if_neg (fun e => hl (lst_none.1 e))]
      obtain ⟨b, hb, e⟩ := lst_mem hl
      rw [e, toNat_cast, (h.used i hi b (by rw [hs]; exact List.mem_append_left _ hb)).2.1, hs, nx_last hnd hb e]
  · by_cases hl : r = []
    · exact .inl (hd_none.2 hl)
    · obtain ⟨b, hb, e⟩ := hd_mem hl
      exact .inr ⟨b, e, h.lt i hi b (by rw [hs]; exact List.mem_append_right _ hb)⟩
/-- An answer, and the pool's values and lists behind a call. -/
structure LkX where
  r : Value
  v : Nat → Int
  of : Nat → List Nat
def StPost (B n m : Nat) (D : LkB) (x : LkX) (W : World) (e : Ending) (W' : World) : Prop := e = .returned x.r ∧ PoolS W' B n m D x.v x.of ∧ BelowS D.S W.heap.size W W'
/-- A value is put into the least free slot, and this into list i between l and r. -/
def fillX (n m : Nat) (v : Nat → Int) (of : Nat → List Nat) (z : Int) (i : Nat) (l r : List Nat) : LkX :=
  if freeS n m of = -1 then ⟨TwoI 0 5, v, of⟩ else ⟨TwoI (freeS n m of) 0, updF v (freeS n m of).toNat z, setOf of i (l ++ (freeS n m of).toNat :: r)⟩
theorem fill_st {W : World} {B n m : Nat} {D : LkB} {v : Nat → Int} {of : Nat → List Nat} {F : LkF} (h : PoolAt W B n m D v F) (hr : Rep n m of F) {i : Nat} (hi : i < m) {l r : List Nat} (hs : of i = l ++ r) (z : Int) :
    Calls Try.prog 42 #[.pointer (some ⟨B, 0, none⟩), .int .i64 (i : Int), .int .i64 (lst l), .int .i64 z] W (StPost B n m D (fillX n m v of z i l r) W) := by
  obtain ⟨a1, a2, a3⟩ := rep_at hr hi hs
  refine (fill_any h i hi (lst l) a1 (by rw [a2]; exact a3) z).mono ?_
  rintro e w1 ⟨rfl, P, Bw⟩
  unfold fillV fillF at P
  unfold fillR
  rw [fillS_eq hr] at P ⊢
  unfold fillX
  rcases freeS_cases n m of with e | ⟨k, e, hk, hf⟩
  · rw [e, if_pos rfl, if_pos rfl] at P
    rw [e, if_pos rfl, if_pos rfl]
    exact ⟨rfl, ⟨F, P, hr⟩, Bw⟩
  · rw [e, if_neg (ne_none k), if_neg (ne_none k), toNat_cast] at P
    rw [e, if_neg (ne_none k), if_neg (ne_none k), toNat_cast]
    exact ⟨rfl, ⟨_, P, rep_link hr hi hk hf hs⟩, Bw⟩
end Go.Proofs.Ytnbniflljbbpbaa
