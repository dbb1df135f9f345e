/- links: wipe; slices.Index. links: fill, Push, After, Take, Move. links: a pool as its values and the lists of its slots. -/
import Derived.Test.YtmelcohfjonjfaaLkReads
import Derived.Lib.SliceRun
import Derived.BigFrame
namespace Go.Proofs.Ytmelcohfjonjfaa
open Go.RowKit

set_option maxHeartbeats 1000000 in
set_option maxRecDepth 100000 in
theorem wipe_any {W : World} {B n m : Nat} {D : LkB} {v : Nat → Int} {F : LkF} (h : PoolAt W B n m D v F) (x : Nat) (hx : x < n) :
    Calls Try.prog 62 #[.pointer (some ⟨B, 0, none⟩), .int .i64 (x : Int)] W (PoolPost B n m D (updF v x 0) F W) := by
  obtain ⟨c0, c1, c2, c3, c4, c5, c6⟩ := h.cells
  have hn := h.nn.2
  have hk := h.kv
  have x0 : (0 : Int) ≤ x := by omega
  have x1 : (x : Int) < n := by omega
  have x2 : (x : Int) ≤ (x : Int) + 1 := by omega
  have x3 : (x : Int) + 1 ≤ (D.cv : Int) := by omega
  have x4 : (0 : Int) ≤ (x : Int) + 1 := by omega
  have w1 : IntKind.i64.wrap ((x : Int) + 1) = (x : Int) + 1 := IntWalk.i64_in _ (by omega)
  obtain ⟨y0, y1⟩ := h.rv.get hx
  have CL := Lib.run_clear_slice (P := Try.prog) W 29 3 0 (.int .i64 0) Try.underlying29 (fun _ => rfl) rfl rfl D.v x 1 (D.cv - x) (by omega) (fun j hj => by have e : j = 0 := (by omega); rw [e, Nat.add_zero, y0]; rfl) (fun j hj => by have e : j = 0 := (by omega); rw [e, Nat.add_zero]; exact y1)
  have H := Lib.hid (h.setVal hx 0)
  have HB := Lib.hid ((BelowS.refl D.S W.heap.size W).cell (show D.S D.v from .inl rfl) x (.int .i64 0))
  clear h hx hn hk
  go_enter Try.func62, Try.ntmps62
  go_wp2_with fail
  go_end0
  exact ⟨rfl, H.out, HB.out⟩
/-- The least slot from i on, n of them, whose number is x; or -1. -/
def idxF (f : Nat → Int) (x : Int) : Nat → Nat → Int
  | _, 0 => -1
  | i, n + 1 => if x = f i then (i : Int) else idxF f x (i + 1) n
set_option maxHeartbeats 1000000 in
set_option maxRecDepth 100000 in
theorem index_any {W : World} {g n c : Nat} {f : Nat → Int} (h : RowF W g n f) (hn : n ≤ 2000) (x : Int) :
    Calls Try.prog 69 #[.slice (some ⟨g, 0, none⟩) n c, .int .i64 x] W (OkEq (.int .i64 (idxF f x 0 n)) W) := by
  have H := Lib.hid h
  have HN := Lib.hid hn
  obtain ⟨r, er⟩ : ∃ r, r = idxF f x 0 n := ⟨_, rfl⟩
  rw [← er]
  have ER := Lib.hid er
  clear h hn er
  go_enter Try.func69, Try.ntmps69
  go_wp2_with fail
  go_loopg [8] n (fun n1 i wr => ∃ k : Nat, k + n1 = n ∧ i = .int .i64 k ∧ r = idxF f x k n1 ∧ wr = W)
  case atStart => exact ⟨0, by omega, by go_num, ER.out, rfl⟩
  case round =>
    obtain ⟨k, hkn, rfl, hr, rfl⟩ := hrel
    by_cases hlt : k < n
    · obtain ⟨n', rfl⟩ : ∃ n', gk = n' + 1 := ⟨gk - 1, by omega⟩
      obtain ⟨y0, _⟩ := H.out.get hlt
      have i1 : (k : Int) < n := by omega
      have k0 : (0 : Int) ≤ k := by omega
      have w1 : IntKind.i64.wrap ((k : Int) + 1) = (k : Int) + 1 := IntWalk.i64_in _ (by have := HN.out; omega)
      unfold idxF at hr
      by_cases hx : x = f k
      · rw [if_pos hx] at hr
        have t1 : (x == f k) = true := beq_iff_eq.2 hx
        subst hr
        clear hx
        go_wp2_with fail
        go_ret
        exact ⟨rfl, rfl⟩
      · rw [if_neg hx] at hr
        have t1 : (x == f k) = false := beq_eq_false_iff_ne.2 hx
        have HR := Lib.hid hr
        clear hx hr
        go_wp2_with fail
        go_roundg n'
        case measure => omega
        case rel => exact ⟨k + 1, by omega, by go_num, HR.out, rfl⟩
    · obtain rfl : k = n := by omega
      obtain rfl : gk = 0 := by omega
      have hr2 : r = -1 := hr
      subst hr2
      go_wp2_with fail
      go_ret
      exact ⟨rfl, rfl⟩
end Go.Proofs.Ytmelcohfjonjfaa
namespace Go.Proofs.Ytmelcohfjonjfaa
open Go.RowKit

theorem idxF_cases (f : Nat → Int) (x : Int) : ∀ (n i : Nat), (idxF f x i n = -1 ∧ ∀ j, i ≤ j → j < i + n → f j ≠ x) ∨ ∃ k : Nat, idxF f x i n = (k : Int) ∧ i ≤ k ∧ k < i + n ∧ f k = x ∧ ∀ j, i ≤ j → j < k → f j ≠ x
  | 0, i => .inl ⟨rfl, fun j h1 h2 => by omega⟩
  | n + 1, i => by
    unfold idxF
    by_cases h : x = f i
    · exact .inr ⟨i, if_pos h, Nat.le_refl _, by omega, h.symm, fun j h1 h2 => by omega⟩
    · rw [if_neg h]
      rcases idxF_cases f x n (i + 1) with ⟨e, h2⟩ | ⟨k, e, h1, h2, h3, h4⟩
      · refine .inl ⟨e, fun j j1 j2 => ?_⟩
        rcases Nat.lt_or_ge i j with hj | hj
        · exact h2 j (by omega) (by omega)
        · obtain rfl : j = i := by omega
          exact fun e => h e.symm
      · refine .inr ⟨k, e, by omega, by omega, h3, fun j j1 j2 => ?_⟩
        rcases Nat.lt_or_ge i j with hj | hj
        · exact h4 j (by omega) (by omega)
        · obtain rfl : j = i := by omega
          exact fun e => h e.symm
def fillS (n : Nat) (F : LkF) : Int := idxF F.list (-1) 0 n
def fillR (n : Nat) (F : LkF) : Value := if fillS n F = -1 then TwoI 0 5 else TwoI (fillS n F) 0
def fillV (n : Nat) (v : Nat → Int) (F : LkF) (z : Int) : Nat → Int := if fillS n F = -1 then v else updF v (fillS n F).toNat z
def fillF (n : Nat) (F : LkF) (l : Nat) (b : Int) : LkF := if fillS n F = -1 then F else linkF F (fillS n F).toNat l b
set_option maxHeartbeats 4000000 in
set_option maxRecDepth 100000 in
theorem fill_any {W : World} {B n m : Nat} {D : LkB} {v : Nat → Int} {F : LkF} (h : PoolAt W B n m D v F) (l : Nat) (hl : l < m) (b : Int) (hb : SlotOr n b) (ha : SlotOr n (if b = -1 then F.first l else F.next b.toNat)) (z : Int) :
    Calls Try.prog 42 #[.pointer (some ⟨B, 0, none⟩), .int .i64 (l : Int), .int .i64 b, .int .i64 z] W (PutPost B n m D (fillV n v F z) (fillF n F l b) W (fillR n F)) := by
  obtain ⟨c0, c1, c2, c3, c4, c5, c6⟩ := h.cells
  have CI := Lib.hid (index_any (c := D.cl) h.rl h.nn.2 (-1))
  rw [show idxF F.list (-1) 0 n = fillS n F from rfl] at CI
  unfold fillV fillF fillR
  rcases idxF_cases F.list (-1) n 0 with ⟨e, _⟩ | ⟨k, e, _, hk, _, _⟩
  · rw [show fillS n F = -1 from e] at CI ⊢
    rw [if_pos rfl, if_pos rfl, if_pos rfl]
    have H := Lib.hid h
    clear h hl hb ha e
    go_enter Try.func42, Try.ntmps42
    go_wp2_with fail
    refine CI.out.mono ?_
    rintro e w1 ⟨rfl, rfl⟩
    go_wp2_with fail
    go_ret2
    exact ⟨rfl, H.out, BelowS.refl _ _ _⟩
  · rw [show fillS n F = (k : Int) from e] at CI ⊢
    rw [if_neg (ne_none k), if_neg (ne_none k), if_neg (ne_none k), toNat_cast]
    have hk' : k < n := by omega
    obtain ⟨y0, y1⟩ := h.rv.get hk'
    have k0 : (0 : Int) ≤ k := by omega
    have k1 : (k : Int) < n := by omega
    have k2 : ¬ (k : Int) < 0 := by omega
    have P1 := h.setVal hk' z
    have CL := Lib.hid (link_any P1 k hk' l hl b hb ha)
    have HB := Lib.hid ((BelowS.refl D.S W.heap.size W).cell (show D.S D.v from .inl rfl) k (.int .i64 z))
    clear h hl hb ha e hk hk' P1
    go_enter Try.func42, Try.ntmps42
    go_wp2_with fail
    refine CI.out.mono ?_
    rintro e w1 ⟨rfl, rfl⟩
    go_wp2_with fail
    refine CL.out.mono ?_
    rintro e w2 ⟨rfl, P2, B2⟩
    go_wp2_with fail
    go_ret2
    exact ⟨rfl, P2, HB.out.to B2 (Nat.le_refl _)⟩
/-- The pool as the lists of its slots. -/
def PoolS (W : World) (B n m : Nat) (D : LkB) (v : Nat → Int) (of : Nat → List Nat) : Prop := ∃ F, PoolAt W B n m D v F ∧ Rep n m of F
end Go.Proofs.Ytmelcohfjonjfaa
namespace Go.Proofs.Ytmelcohfjonjfaa
open Go.RowKit

/-- The list in which a slot is, or -1. -/
def whr (m : Nat) (of : Nat → List Nat) (k : Nat) : Int := match (List.range m).find? (fun i => decide (k ∈ of i)) with
  | some i => (i : Int)
  | none => -1
theorem rep_list {n m : Nat} {of : Nat → List Nat} {F : LkF} (h : Rep n m of F) {k : Nat} (hk : k < n) : F.list k = whr m of k := by
  unfold whr
  cases e : (List.range m).find? (fun i => decide (k ∈ of i)) with
  | some i =>
    have h1 := List.mem_of_find?_eq_some e
    have h2 := List.find?_some e
    exact (h.used i (List.mem_range.1 h1) k (by simpa using h2)).1
  | none =>
    have h2 := List.find?_eq_none.1 e
    exact (h.free k hk (fun i hi hx => h2 i (List.mem_range.2 hi) (by simpa using hx))).1
theorem whr_in {m : Nat} {of : Nat → List Nat} {k i : Nat} (e : whr m of k = (i : Int)) : i < m ∧ k ∈ of i := by
  unfold whr at e
  cases e2 : (List.range m).find? (fun i => decide (k ∈ of i)) with
  | some j =>
    rw [e2] at e
    obtain rfl : j = i := by have : (j : Int) = i := e; omega
    exact ⟨List.mem_range.1 (List.mem_of_find?_eq_some e2), by simpa using List.find?_some e2⟩
  | none => rw [e2] at e; have : (-1 : Int) = i := e; omega
theorem whr_none {m : Nat} {of : Nat → List Nat} {k : Nat} (e : whr m of k = -1) : ∀ i, i < m → k ∉ of i := by
  unfold whr at e
  cases e2 : (List.range m).find? (fun i => decide (k ∈ of i)) with
  | some j => rw [e2] at e; have : (j : Int) = -1 := e; omega
  | none => exact fun i hi hx => List.find?_eq_none.1 e2 i (List.mem_range.2 hi) (by simpa using hx)
theorem whr_cases (m : Nat) (of : Nat → List Nat) (k : Nat) : whr m of k = -1 ∨ ∃ i : Nat, whr m of k = (i : Int) := by
  unfold whr
  cases (List.range m).find? (fun i => decide (k ∈ of i)) with
  | some j => exact .inr ⟨j, rfl⟩
  | none => exact .inl rfl
theorem idxF_congr {f g : Nat → Int} {x : Int} : ∀ {n i : Nat}, (∀ j, i ≤ j → j < i + n → f j = g j) → idxF f x i n = idxF g x i n
  | 0, _, _ => rfl
  | n + 1, i, h => by
    unfold idxF
    rw [h i (Nat.le_refl _) (by omega), idxF_congr (fun j h1 h2 => h j (by omega) (by omega))]
/-- The least free slot, or -1. -/
def freeS (n m : Nat) (of : Nat → List Nat) : Int := idxF (whr m of) (-1) 0 n
theorem fillS_eq {n m : Nat} {of : Nat → List Nat} {F : LkF} (h : Rep n m of F) : fillS n F = freeS n m of :=
  idxF_congr (fun j _ hj => rep_list h (by omega))
theorem freeS_cases (n m : Nat) (of : Nat → List Nat) : freeS n m of = -1 ∨ ∃ k : Nat, freeS n m of = (k : Int) ∧ k < n ∧ ∀ i, i < m → k ∉ of i := by
  rcases idxF_cases (whr m of) (-1) n 0 with ⟨e, _⟩ | ⟨k, e, _, hk, h, _⟩
  · exact .inl e
  · exact .inr ⟨k, e, by omega, whr_none h⟩
def slotW (n m : Nat) (of : Nat → List Nat) (x : Int) : Int := if x < 0 ∨ (n : Int) ≤ x ∨ whr m of x.toNat = -1 then 4 else 0
theorem slotE_eq {n m : Nat} {of : Nat → List Nat} {F : LkF} (h : Rep n m of F) (x : Int) : slotE n F x = slotW n m of x := by
  unfold slotE slotW
  by_cases h1 : x < 0
  · rw [if_pos (.inl h1), if_pos (.inl h1)]
  · by_cases h2 : (n : Int) ≤ x
    · rw [if_pos (.inr (.inl h2)), if_pos (.inr (.inl h2))]
    · rw [rep_list h (by omega)]
/-- Where a list is parted, there one may link. -/
theorem rep_at {n m : Nat} {of : Nat → List Nat} {F : LkF} (h : Rep n m of F) {i : Nat} {l r : List Nat} (hi : i < m) (hs : of i = l ++ r) :
    SlotOr n (lst l) ∧ (if lst l = -1 then F.first i else F.next (lst l).toNat) = hd r ∧ SlotOr n (hd r) := by
  have hnd : (l ++ r).Nodup := hs ▸ h.nodup i hi
  refine ⟨?_, ?_, ?_⟩
  · by_cases hl : l = []
    · exact .inl (lst_none.2 hl)
    · obtain ⟨b, hb, e⟩ := lst_mem hl
      exact .inr ⟨b, e, h.lt i hi b (by rw [hs]; exact List.mem_append_left _ hb)⟩
  · by_cases hl : l = []
    · rw [if_pos (lst_none.2 hl), (h.ends i hi).1, hs, hl]; rfl
    · rw [if_neg (fun e => hl (lst_none.1 e))]
      obtain ⟨b, hb, e⟩ := lst_mem hl
      rw [e, toNat_cast, (h.used i hi b (by rw [hs]; exact List.mem_append_left _ hb)).2.1, hs, nx_last hnd hb e]
  · by_cases hl : r = []
    · exact .inl (hd_none.2 hl)
    · obtain ⟨b, hb, e⟩ := hd_mem hl
      exact .inr ⟨b, e, h.lt i hi b (by rw [hs]; exact List.mem_append_right _ hb)⟩
/-- An answer, and the pool's values and lists behind a call. -/
structure LkX where
  r : Value
  v : Nat → Int
  of : Nat → List Nat
def StPost (B n m : Nat) (D : LkB) (x : LkX) (W : World) (e : Ending) (W' : World) : Prop := e = .returned x.r ∧ PoolS W' B n m D x.v x.of ∧ BelowS D.S W.heap.size W W'
/-- A value is put into the least free slot, and this into list i between l and r. -/
def fillX (n m : Nat) (v : Nat → Int) (of : Nat → List Nat) (z : Int) (i : Nat) (l r : List Nat) : LkX :=
  if freeS n m of = -1 then ⟨TwoI 0 5, v, of⟩ else ⟨TwoI (freeS n m of) 0, updF v (freeS n m of).toNat z, setOf of i (l ++ (freeS n m of).toNat :: r)⟩
theorem fill_st {W : World} {B n m : Nat} {D : LkB} {v : Nat → Int} {of : Nat → List Nat} {F : LkF} (h : PoolAt W B n m D v F) (hr : Rep n m of F) {i : Nat} (hi : i < m) {l r : List Nat} (hs : of i = l ++ r) (z : Int) :
    Calls Try.prog 42 #[.pointer (some ⟨B, 0, none⟩), .int .i64 (i : Int), .int .i64 (lst l), .int .i64 z] W (StPost B n m D (fillX n m v of z i l r) W) := by
  obtain ⟨a1, a2, a3⟩ := rep_at hr hi hs
  refine (fill_any h i hi (lst l) a1 (by rw [a2]; exact a3) z).mono ?_
  rintro e w1 ⟨rfl, P, Bw⟩
  unfold fillV fillF at P
  unfold fillR
  rw [fillS_eq hr] at P ⊢
  unfold fillX
  rcases freeS_cases n m of with e | ⟨k, e, hk, hf⟩
  · rw [e, if_pos rfl, if_pos rfl] at P
    rw [e, if_pos rfl, if_pos rfl]
    exact ⟨rfl, ⟨F, P, hr⟩, Bw⟩
  · rw [e, if_neg (ne_none k), if_neg (ne_none k), toNat_cast] at P
    rw [e, if_neg (ne_none k), if_neg (ne_none k), toNat_cast]
    exact ⟨rfl, ⟨_, P, rep_link hr hi hk hf hs⟩, Bw⟩
end Go.Proofs.Ytmelcohfjonjfaa
