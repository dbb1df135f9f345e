/- links: After, Take, Move. links: Take, Move. links: Get, Where, End, Step, Put of a pool as values and lists. -/
import Derived.Test.YtmelcohfjonjfaaLkPush
namespace Go.Proofs.Ytmelcohfjonjfaa
open Go.RowKit

def bef (x : Nat) : List Nat → List Nat
  | [] => []
  | a :: t => if a = x then [] else a :: bef x t
def beh (x : Nat) : List Nat → List Nat
  | [] => []
  | a :: t => if a = x then t else beh x t
theorem cut_at {x : Nat} : ∀ {l : List Nat}, x ∈ l → l = bef x l ++ x :: beh x l
  | [], h => by cases h
  | a :: t, h => by
    unfold bef beh
    by_cases e : a = x
    · rw [if_pos e, if_pos e, e]; rfl
    · rw [if_neg e, if_neg e, List.cons_append, ← cut_at (by rcases List.mem_cons.1 h with h | h; exact absurd h.symm e; exact h)]
theorem lst_snoc (l : List Nat) (x : Nat) : lst (l ++ [x]) = (x : Int) := by rw [lst_append, if_neg (by simp)]; rfl
/-- What unlink asks, at a slot of a list. -/
theorem rep_mid {n m : Nat} {of : Nat → List Nat} {F : LkF} (h : Rep n m of F) {i x : Nat} {l r : List Nat} (hi : i < m) (hs : of i = l ++ x :: r) :
    F.list x = (i : Int) ∧ SlotOr n (F.prev x) ∧ SlotOr n (F.next x) ∧ F.prev x ≠ (x : Int) ∧ F.next x ≠ (x : Int) ∧ x < n := by
  have hnd : (l ++ x :: r).Nodup := hs ▸ h.nodup i hi
  have hm : x ∈ of i := by rw [hs]; simp
  obtain ⟨_, hno⟩ := nodup_del hnd
  obtain ⟨e1, e2, e3⟩ := h.used i hi x hm
  have hxl : x ∉ l := fun e => hno (List.mem_append_left _ e)
  have hxr : x ∉ r := fun e => hno (List.mem_append_right _ e)
  have p : F.prev x = lst l := by rw [e3, hs, pv_first hnd (List.mem_cons_self ..) rfl]
  have q : F.next x = hd r := by
    rw [e2, hs, nx_append hnd, if_neg hxl]
    show (if x = x then _ else _) = _
    rw [if_pos rfl]
  have a1 := rep_at h hi hs
  have a2 := rep_at h hi (l := l ++ [x]) (r := r) (by rw [hs]; simp)
  refine ⟨e1, p ▸ a1.1, q ▸ a2.2.2, ?_, ?_, h.lt i hi x hm⟩
  · rw [p]
    intro e
    by_cases hl : l = []
    · rw [hl] at e; have : (-1 : Int) = x := e; omega
    · obtain ⟨b, hb, eb⟩ := lst_mem hl
      rw [eb] at e
      obtain rfl : b = x := by omega
      exact hxl hb
  · rw [q]
    intro e
    by_cases hl : r = []
    · rw [hl] at e; have : (-1 : Int) = x := e; omega
    · obtain ⟨b, hb, eb⟩ := hd_mem hl
      rw [eb] at e
      obtain rfl : b = x := by omega
      exact hxr hb
def UnPost (B n m : Nat) (D : LkB) (v : Nat → Int) (of : Nat → List Nat) (W : World) (e : Ending) (W' : World) : Prop := e = .returned (.tuple #[]) ∧ PoolS W' B n m D v of ∧ BelowS D.S W.heap.size W W'
theorem unlink_st {W : World} {B n m : Nat} {D : LkB} {v : Nat → Int} {of : Nat → List Nat} {F : LkF} (h : PoolAt W B n m D v F) (hr : Rep n m of F) {i x : Nat} (hi : i < m) {l r : List Nat} (hs : of i = l ++ x :: r) :
    Calls Try.prog 63 #[.pointer (some ⟨B, 0, none⟩), .int .i64 (x : Int)] W (UnPost B n m D v (setOf of i (l ++ r)) W) := by
  obtain ⟨a1, a2, a3, a4, a5, a6⟩ := rep_mid hr hi hs
  refine (unlink_any h x a6 i hi a1 a2 a3 a4 a5).mono ?_
  rintro e w1 ⟨rfl, P, Bw⟩
  exact ⟨rfl, ⟨_, P, rep_unlink hr hi hs⟩, Bw⟩
theorem slotW_cases (n m : Nat) (of : Nat → List Nat) (x : Int) : slotW n m of x = 4 ∨ (slotW n m of x = 0 ∧ ∃ k i : Nat, x = (k : Int) ∧ k < n ∧ whr m of k = (i : Int) ∧ i < m ∧ of i = bef k (of i) ++ k :: beh k (of i)) := by
  unfold slotW
  by_cases h : x < 0 ∨ (n : Int) ≤ x ∨ whr m of x.toNat = -1
  · exact .inl (if_pos h)
  · rcases whr_cases m of x.toNat with e | ⟨i, e⟩
    · exact absurd (.inr (.inr e)) h
    · obtain ⟨hi, hk⟩ := whr_in e
      exact .inr ⟨if_neg h, x.toNat, i, by omega, by omega, e, hi, cut_at hk⟩
def afterX (n m : Nat) (v : Nat → Int) (of : Nat → List Nat) (x z : Int) : LkX :=
  if slotW n m of x = 0 then (let i := (whr m of x.toNat).toNat; fillX n m v of z i (bef x.toNat (of i) ++ [x.toNat]) (beh x.toNat (of i))) else ⟨TwoI 0 4, v, of⟩
set_option maxHeartbeats 2000000 in
set_option maxRecDepth 100000 in
theorem after_any {W : World} {B n m : Nat} {D : LkB} {v : Nat → Int} {of : Nat → List Nat} (h : PoolS W B n m D v of) (x z : Int) :
    Calls Try.prog 34 #[.pointer (some ⟨B, 0, none⟩), .int .i64 x, .int .i64 z] W (StPost B n m D (afterX n m v of x z) W) := by
  obtain ⟨F, hp, hr⟩ := h
  have C := checkSlot_any hp x
  rw [slotE_eq hr] at C
  have C := Lib.hid C
  unfold afterX
  rcases slotW_cases n m of x with e | ⟨e, k, i, rfl, hk, ew, hi, hs⟩
  · rw [e] at C ⊢
    rw [if_neg (by decide)]
    have H := Lib.hid hp
    have HR := Lib.hid hr
    clear hp hr e
    go_enter Try.func34, Try.ntmps34
    go_wp2_with fail
    refine C.out.mono ?_
    rintro e w1 ⟨rfl, rfl⟩
    go_wp2_with fail
    go_ret2
    exact ⟨rfl, ⟨F, H.out, HR.out⟩, BelowS.refl _ _ _⟩
  · rw [e] at C ⊢
    rw [if_pos rfl, toNat_cast]
    simp only
    rw [ew, toNat_cast]
    have CF := fill_st hp hr hi (l := bef k (of i) ++ [k]) (r := beh k (of i)) (by rw [List.append_assoc]; exact hs) z
    rw [lst_snoc] at CF
    have hX := fillX_two n m v of z i (bef k (of i) ++ [k]) (beh k (of i))
    generalize fillX n m v of z i (bef k (of i) ++ [k]) (beh k (of i)) = X at CF hX ⊢
    have CF := Lib.hid CF
    obtain ⟨c0, c1, c2, c3, c4, c5, c6⟩ := hp.cells
    obtain ⟨l1, _⟩ := hp.rl.get hk
    rw [rep_list hr hk, ew] at l1
    have k0 : (0 : Int) ≤ k := by omega
    have k1 : (k : Int) < n := by omega
    clear hp hr e hk hi hs ew
    go_enter Try.func34, Try.ntmps34
    go_wp2_with fail
    refine C.out.mono ?_
    rintro e w1 ⟨rfl, rfl⟩
    go_wp2_with fail
    refine CF.out.mono ?_
    rintro e w3 ⟨rfl, P, Bw⟩
    obtain ⟨X1, X2, X3⟩ := X
    obtain ⟨a, c, rfl⟩ := hX
    go_wp2_with fail
    go_ret2
    exact ⟨rfl, P, Bw⟩
end Go.Proofs.Ytmelcohfjonjfaa
namespace Go.Proofs.Ytmelcohfjonjfaa
open Go.RowKit

def takeX (n m : Nat) (v : Nat → Int) (of : Nat → List Nat) (x : Int) : LkX :=
  if slotW n m of x = 0 then (let i := (whr m of x.toNat).toNat; ⟨TwoI (v x.toNat) 0, updF v x.toNat 0, setOf of i (bef x.toNat (of i) ++ beh x.toNat (of i))⟩) else ⟨TwoI 0 4, v, of⟩
set_option maxHeartbeats 2000000 in
set_option maxRecDepth 100000 in
theorem take_any {W : World} {B n m : Nat} {D : LkB} {v : Nat → Int} {of : Nat → List Nat} (h : PoolS W B n m D v of) (x : Int) :
    Calls Try.prog 29 #[.pointer (some ⟨B, 0, none⟩), .int .i64 x] W (StPost B n m D (takeX n m v of x) W) := by
  obtain ⟨F, hp, hr⟩ := h
  have C := checkSlot_any hp x
  rw [slotE_eq hr] at C
  have C := Lib.hid C
  unfold takeX
  rcases slotW_cases n m of x with e | ⟨e, k, i, rfl, hk, ew, hi, hs⟩
  · rw [e] at C ⊢
    rw [if_neg (by decide)]
    have H := Lib.hid hp
    have HR := Lib.hid hr
    clear hp hr e
    go_enter Try.func29, Try.ntmps29
    go_wp2_with fail
    refine C.out.mono ?_
    rintro e w1 ⟨rfl, rfl⟩
    go_wp2_with fail
    go_ret2
    exact ⟨rfl, ⟨F, H.out, HR.out⟩, BelowS.refl _ _ _⟩
  · rw [e] at C ⊢
    rw [if_pos rfl, toNat_cast]
    simp only
    rw [ew, toNat_cast]
    have CW := Lib.hid (wipe_any hp k hk)
    have CU := Lib.hid (fun (w1 : World) (P : PoolAt w1 B n m D (updF v k 0) F) => unlink_st P hr hi hs)
    generalize setOf of i (bef k (of i) ++ beh k (of i)) = of' at CU ⊢
    obtain ⟨c0, c1, c2, c3, c4, c5, c6⟩ := hp.cells
    obtain ⟨l1, _⟩ := hp.rv.get hk
    generalize v k = y at l1 ⊢
    have k0 : (0 : Int) ≤ k := by omega
    have k1 : (k : Int) < n := by omega
    clear hp hr e hk hi hs ew
    go_enter Try.func29, Try.ntmps29
    go_wp2_with fail
    refine C.out.mono ?_
    rintro e w1 ⟨rfl, rfl⟩
    go_wp2_with fail
    refine CW.out.mono ?_
    rintro e w2 ⟨rfl, P, B1⟩
    have CU := Lib.hid (CU.out _ P)
    have HB := Lib.hid B1
    clear P B1 c0 c1 c2 c3 c4 c5 c6 l1
    go_wp2_with fail
    refine CU.out.mono ?_
    rintro e w3 ⟨rfl, P, B2⟩
    go_wp2_with fail
    go_ret2
    exact ⟨rfl, P, HB.out.to B2 (Nat.le_refl _)⟩
theorem free_del {n m : Nat} {of : Nat → List Nat} {F : LkF} (h : Rep n m of F) {i x : Nat} {l r : List Nat} (hi : i < m) (hs : of i = l ++ x :: r) : ∀ j, j < m → x ∉ setOf of i (l ++ r) j := by
  intro j hj
  unfold setOf
  by_cases e : j = i
  · rw [if_pos e]
    exact (nodup_del (hs ▸ h.nodup i hi)).2
  · rw [if_neg e]
    exact h.disj i j hi hj (fun e2 => e e2.symm) x (by rw [hs]; simp)
theorem link_st {W : World} {B n m : Nat} {D : LkB} {v : Nat → Int} {of : Nat → List Nat} {F : LkF} (h : PoolAt W B n m D v F) (hr : Rep n m of F) {i x : Nat} (hi : i < m) (hx : x < n) (hf : ∀ j, j < m → x ∉ of j) {l r : List Nat} (hs : of i = l ++ r) :
    Calls Try.prog 65 #[.pointer (some ⟨B, 0, none⟩), .int .i64 (x : Int), .int .i64 (i : Int), .int .i64 (lst l)] W (UnPost B n m D v (setOf of i (l ++ x :: r)) W) := by
  obtain ⟨a1, a2, a3⟩ := rep_at hr hi hs
  refine (link_any h x hx i hi (lst l) a1 (by rw [a2]; exact a3)).mono ?_
  rintro e w1 ⟨rfl, P, Bw⟩
  exact ⟨rfl, ⟨_, P, rep_link hr hi hx hf hs⟩, Bw⟩
def movedOf (of : Nat → List Nat) (x l : Nat) (front : Bool) : Nat → List Nat := setOf of l (if front then x :: of l else of l ++ [x])
def moveX (n m : Nat) (v : Nat → Int) (of : Nat → List Nat) (x l : Int) (front : Bool) : LkX :=
  if slotW n m of x = 0 then (if listE m l = 0 then (let i := (whr m of x.toNat).toNat; ⟨.int .i64 0, v, movedOf (setOf of i (bef x.toNat (of i) ++ beh x.toNat (of i))) x.toNat l.toNat front⟩) else ⟨.int .i64 7, v, of⟩) else ⟨.int .i64 4, v, of⟩
/-- The two calls that end Move: what comes before the place, and the linking. -/
theorem move_end {W : World} {B n m : Nat} {D : LkB} {v : Nat → Int} {of : Nat → List Nat} (h : PoolS W B n m D v of) {x l : Nat} (hx : x < n) (hl : l < m) (hf : ∀ j, j < m → x ∉ of j) (front : Bool) :
    ∃ b : Int, Calls Try.prog 43 #[.pointer (some ⟨B, 0, none⟩), .int .i64 (l : Int), .bool front] W (OkEq (.int .i64 b) W) ∧ Calls Try.prog 65 #[.pointer (some ⟨B, 0, none⟩), .int .i64 (x : Int), .int .i64 (l : Int), .int .i64 b] W (UnPost B n m D v (movedOf of x l front) W) := by
  obtain ⟨F, hp, hr⟩ := h
  refine ⟨_, before_any hp l hl front, ?_⟩
  unfold movedOf
  cases front
  · have := link_st hp hr hl hx hf (l := of l) (r := []) (List.append_nil _).symm
    rw [← (hr.ends l hl).2] at this
    exact this
  · exact link_st hp hr hl hx hf (l := []) (r := of l) rfl
set_option maxHeartbeats 2000000 in
set_option maxRecDepth 100000 in
theorem move_any {W : World} {B n m : Nat} {D : LkB} {v : Nat → Int} {of : Nat → List Nat} (h : PoolS W B n m D v of) (x l : Int) (front : Bool) :
    Calls Try.prog 31 #[.pointer (some ⟨B, 0, none⟩), .int .i64 x, .int .i64 l, .bool front] W (StPost B n m D (moveX n m v of x l front) W) := by
  obtain ⟨F, hp, hr⟩ := h
  have C := checkSlot_any hp x
  have CL := Lib.hid (checkList_any hp l)
  rw [slotE_eq hr] at C
  have C := Lib.hid C
  unfold moveX
  rcases slotW_cases n m of x with e | ⟨e, k, i, rfl, hk, ew, hi, hs⟩
  · rw [e] at C ⊢
    rw [if_neg (by decide)]
    have H := Lib.hid hp
    have HR := Lib.hid hr
    clear hp hr e CL
    go_enter Try.func31, Try.ntmps31
    go_wp2_with fail
    refine C.out.mono ?_
    rintro e w1 ⟨rfl, rfl⟩
    go_wp2_with fail
    go_ret
    exact ⟨rfl, ⟨F, H.out, HR.out⟩, BelowS.refl _ _ _⟩
  · rw [e] at C ⊢
    rw [if_pos rfl, toNat_cast]
    rcases listE_cases m l with ⟨e2, _⟩ | ⟨e2, j, rfl, hj⟩
    · rw [e2] at CL ⊢
      rw [if_neg (by decide)]
      have H := Lib.hid hp
      have HR := Lib.hid hr
      clear hp hr e e2 ew hi hs
      go_enter Try.func31, Try.ntmps31
      go_wp2_with fail
      refine C.out.mono ?_
      rintro e w1 ⟨rfl, rfl⟩
      go_wp2_with fail
      refine CL.out.mono ?_
      rintro e w1 ⟨rfl, rfl⟩
      go_wp2_with fail
      go_ret
      exact ⟨rfl, ⟨F, H.out, HR.out⟩, BelowS.refl _ _ _⟩
    · rw [e2] at CL ⊢
      rw [if_pos rfl, toNat_cast]
      simp only
      rw [ew, toNat_cast]
      have hf := free_del hr hi hs
      have CU := Lib.hid (unlink_st hp hr hi hs)
      generalize setOf of i (bef k (of i) ++ beh k (of i)) = of' at CU hf ⊢
      have CM := Lib.hid (fun (w1 : World) (P : PoolS w1 B n m D v of') => move_end P hk hj hf front)
      clear hp hr e e2 hk hi hs ew hf hj
      go_enter Try.func31, Try.ntmps31
      go_wp2_with fail
      refine C.out.mono ?_
      rintro e w1 ⟨rfl, rfl⟩
      go_wp2_with fail
      refine CL.out.mono ?_
      rintro e w1 ⟨rfl, rfl⟩
      go_wp2_with fail
      refine CU.out.mono ?_
      rintro e w2 ⟨rfl, P, B1⟩
      obtain ⟨b, CB, CK⟩ := CM.out _ P
      have CB := Lib.hid CB
      have CK := Lib.hid CK
      have HB := Lib.hid B1
      clear P B1 CM
      go_wp2_with fail
      refine CB.out.mono ?_
      rintro e w3 ⟨rfl, rfl⟩
      go_wp2_with fail
      refine CK.out.mono ?_
      rintro e w4 ⟨rfl, P, B2⟩
      go_wp2_with fail
      go_ret
      exact ⟨rfl, P, HB.out.to B2 (Nat.le_refl _)⟩
end Go.Proofs.Ytmelcohfjonjfaa
namespace Go.Proofs.Ytmelcohfjonjfaa
open Go.RowKit

def getW (n m : Nat) (v : Nat → Int) (of : Nat → List Nat) (x : Int) : Value := if slotW n m of x = 0 then TwoI (v x.toNat) 0 else TwoI 0 4
def whereW (n m : Nat) (of : Nat → List Nat) (x : Int) : Value := if slotW n m of x = 0 then TwoI (whr m of x.toNat) 0 else TwoI 0 4
def endW (m : Nat) (of : Nat → List Nat) (l : Int) (front : Bool) : Value := if listE m l = 0 then orNone 4 (if front then hd (of l.toNat) else lst (of l.toNat)) else TwoI 0 7
def stepW (n m : Nat) (of : Nat → List Nat) (x : Int) (back : Bool) : Value :=
  if slotW n m of x = 0 then orNone 9 (if back then pv (of (whr m of x.toNat).toNat) x.toNat else nx (of (whr m of x.toNat).toNat) x.toNat) else TwoI 0 4
def putX (n m : Nat) (v : Nat → Int) (of : Nat → List Nat) (x z : Int) : LkX := ⟨.int .i64 (slotW n m of x), if slotW n m of x = 0 then updF v x.toNat z else v, of⟩
theorem get_st {W : World} {B n m : Nat} {D : LkB} {v : Nat → Int} {of : Nat → List Nat} (h : PoolS W B n m D v of) (x : Int) :
    Calls Try.prog 13 #[.pointer (some ⟨B, 0, none⟩), .int .i64 x] W (OkEq (getW n m v of x) W) := by
  obtain ⟨F, hp, hr⟩ := h
  have C := get_any hp x
  unfold getI at C
  unfold getW
  rw [slotE_eq hr] at C
  rcases slotW_cases n m of x with e | ⟨e, _⟩
  · rw [e, if_neg (by decide)] at C
    rw [e, if_neg (by decide)]
    exact C
  · rw [e, if_pos rfl] at C
    rw [e, if_pos rfl]
    exact C
theorem where_st {W : World} {B n m : Nat} {D : LkB} {v : Nat → Int} {of : Nat → List Nat} (h : PoolS W B n m D v of) (x : Int) :
    Calls Try.prog 37 #[.pointer (some ⟨B, 0, none⟩), .int .i64 x] W (OkEq (whereW n m of x) W) := by
  obtain ⟨F, hp, hr⟩ := h
  have C := where_any hp x
  unfold whereI at C
  unfold whereW
  rw [slotE_eq hr] at C
  rcases slotW_cases n m of x with e | ⟨e, k, i, rfl, hk, _⟩
  · rw [e, if_neg (by decide)] at C
    rw [e, if_neg (by decide)]
    exact C
  · rw [e, if_pos rfl, toNat_cast, rep_list hr hk] at C
    rw [e, if_pos rfl, toNat_cast]
    exact C
theorem end_st {W : World} {B n m : Nat} {D : LkB} {v : Nat → Int} {of : Nat → List Nat} (h : PoolS W B n m D v of) (l : Int) (front : Bool) :
    Calls Try.prog 51 #[.pointer (some ⟨B, 0, none⟩), .int .i64 l, .bool front] W (OkEq (endW m of l front) W) := by
  obtain ⟨F, hp, hr⟩ := h
  have C := End_any hp l front
  unfold endV at C
  unfold endW
  rcases listE_cases m l with ⟨e, _⟩ | ⟨e, k, rfl, hk⟩
  · rw [e, if_neg (by decide)] at C ⊢
    exact C
  · rw [e, if_pos rfl, toNat_cast] at C ⊢
    rw [(hr.ends k hk).1, (hr.ends k hk).2] at C
    exact C
theorem step_st {W : World} {B n m : Nat} {D : LkB} {v : Nat → Int} {of : Nat → List Nat} (h : PoolS W B n m D v of) (x : Int) (back : Bool) :
    Calls Try.prog 35 #[.pointer (some ⟨B, 0, none⟩), .int .i64 x, .bool back] W (OkEq (stepW n m of x back) W) := by
  obtain ⟨F, hp, hr⟩ := h
  have C := Step_any hp x back
  unfold stepV at C
  unfold stepW
  rw [slotE_eq hr] at C
  rcases slotW_cases n m of x with e | ⟨e, k, i, rfl, hk, ew, hi, hs⟩
  · rw [e, if_neg (by decide)] at C
    rw [e, if_neg (by decide)]
    exact C
  · rw [e, if_pos rfl, toNat_cast] at C
    rw [e, if_pos rfl, toNat_cast, ew, toNat_cast]
    obtain ⟨_, h2, h3⟩ := hr.used i hi k (by rw [hs]; simp)
    rw [h2, h3] at C
    exact C
theorem put_st {W : World} {B n m : Nat} {D : LkB} {v : Nat → Int} {of : Nat → List Nat} (h : PoolS W B n m D v of) (x z : Int) :
    Calls Try.prog 15 #[.pointer (some ⟨B, 0, none⟩), .int .i64 x, .int .i64 z] W (StPost B n m D (putX n m v of x z) W) := by
  obtain ⟨F, hp, hr⟩ := h
  refine (put_any hp x z).mono ?_
  rintro e w1 ⟨rfl, P, Bw⟩
  unfold putV at P
  rw [slotE_eq hr] at P ⊢
  exact ⟨rfl, ⟨F, P, hr⟩, Bw⟩
end Go.Proofs.Ytmelcohfjonjfaa
