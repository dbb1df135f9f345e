/- expand: what it returns. -/
import Derived.Test.YtgldpdbdgjehkaaGreatDoorItem
namespace Go.Proofs.YtgldpdbdgjehkaaGreatDoor
open Go.RowKit

/-- A run that stands for numbers. -/
structure Run.Good (r : Run) : Prop where
  f0 : 0 ≤ r.first
  fl : r.first ≤ r.last
  l1 : r.last ≤ 10000
  t1 : 1 ≤ r.times
  t2 : r.times ≤ 10000
def Run.size (r : Run) : Int := (r.last - r.first + 1) * r.times
def sizes : List Run → Int
  | [] => 0
  | r :: rs => r.size + sizes rs
theorem Run.size_bd {r : Run} (h : r.Good) : 1 ≤ r.size ∧ r.size ≤ 100010000 := by
  obtain ⟨f0, fl, l1, t1, t2⟩ := h
  unfold Run.size
  have h1 : 1 ≤ r.last - r.first + 1 := by omega
  have h2 : r.last - r.first + 1 ≤ 10001 := by omega
  constructor
  · exact Int.le_trans (by omega : (1 : Int) ≤ 1 * 1) (Int.mul_le_mul h1 t1 (by omega) (by omega))
  · exact Int.le_trans (Int.mul_le_mul h2 t2 (by omega) (by omega)) (by decide)
theorem sizes_bd : ∀ {rs : List Run}, (∀ r ∈ rs, r.Good) → 0 ≤ sizes rs ∧ sizes rs ≤ 100010000 * (rs.length : Int) ∧ (rs.length : Int) ≤ sizes rs
  | [], _ => by simp [sizes]
  | r :: rs, h => by
    have h1 := Run.size_bd (h r (by simp))
    have h2 := sizes_bd (fun x hx => h x (List.mem_cons_of_mem _ hx))
    simp only [sizes, List.length_cons]; omega
theorem sizes_snoc (rs : List Run) (r : Run) : sizes (rs ++ [r]) = sizes rs + r.size := by
  induction rs with
  | nil => simp [sizes]
  | cons a t ih => simp only [List.cons_append, sizes, ih]; omega
def numsUpto (r : Run) (n : Int) : List Int := (List.range (n - r.first).toNat).flatMap fun (i : Nat) => List.replicate r.times.toNat (r.first + (i : Int))
def Run.nums (r : Run) : List Int := numsUpto r (r.last + 1)
def expandR (rs : List Run) : List Int × Int := if rs.any (fun r => decide (9999 < r.last)) then ([], 7) else if 500 < sizes rs then ([], 3) else (rs.flatMap Run.nums, 0)
def intCells (l : List Int) : List Value := l.map (Value.int .i64)
def ExpandPost (rs : List Run) (w : World) (e : Ending) (w' : World) : Prop :=
  ∃ v, e = .returned (.tuple #[v, .int .i64 (expandR rs).2]) ∧ w'.ownsRow w.heap.size 3 1 v (expandR rs).1.length (intCells (expandR rs).1) ∧ Below w.heap.size w w'

theorem take_snoc' {α : Type} (l : List α) (k : Nat) (h : k < l.length) : l.take (k + 1) = l.take k ++ [l[k]] := List.take_succ_eq_append_getElem h

theorem range_rep_length (t : Nat) (f : Nat → Int) : ∀ m : Nat, ((List.range m).flatMap fun i => List.replicate t (f i)).length = m * t
  | 0 => by simp
  | m + 1 => by rw [List.range_succ, List.flatMap_append, List.length_append, range_rep_length t f m]; simp [Nat.add_mul]
theorem nums_length {r : Run} (h : r.Good) : ((r.nums.length : Nat) : Int) = r.size := by
  unfold Run.nums numsUpto Run.size
  rw [range_rep_length]
  obtain ⟨f0, fl, l1, t1, t2⟩ := h
  rw [Int.natCast_mul, Int.toNat_of_nonneg (by omega), Int.toNat_of_nonneg (by omega)]
  congr 1; omega
theorem flat_length : ∀ {rs : List Run}, (∀ r ∈ rs, r.Good) → (((rs.flatMap Run.nums).length : Nat) : Int) = sizes rs
  | [], _ => rfl
  | r :: rs, h => by
    rw [List.flatMap_cons, List.length_append, Int.natCast_add, nums_length (h r (by simp)), flat_length (fun x hx => h x (List.mem_cons_of_mem _ hx))]; rfl
theorem numsUpto_first (r : Run) : numsUpto r r.first = [] := by simp [numsUpto]
theorem numsUpto_succ (r : Run) (n : Int) (h : r.first ≤ n) : numsUpto r (n + 1) = numsUpto r n ++ List.replicate r.times.toNat n := by
  unfold numsUpto
  rw [show (n + 1 - r.first).toNat = (n - r.first).toNat + 1 by omega, List.range_succ, List.flatMap_append]
  congr 1
  simp only [List.flatMap_cons, List.flatMap_nil, List.append_nil]
  congr 1; omega
theorem numsUpto_le (r : Run) (n : Int) (h : r.first ≤ n) : ∀ d : Nat, (numsUpto r n).length ≤ (numsUpto r (n + d)).length
  | 0 => by simp
  | d + 1 => by
    have := numsUpto_le r n h d
    rw [show n + ((d + 1 : Nat) : Int) = (n + d) + 1 by omega, numsUpto_succ r _ (by omega)]; simp; omega
theorem expand_room {rs : List Run} (k : Nat) (hk : k < rs.length) (n : Int) (t : Nat) (h1 : rs[k].first ≤ n) (h2 : n ≤ rs[k].last) (ht : (t : Int) < rs[k].times) :
    ((rs.take k).flatMap Run.nums ++ numsUpto rs[k] n ++ List.replicate t n).length + 1 ≤ (rs.flatMap Run.nums).length := by
  have e : rs.flatMap Run.nums = (rs.take k).flatMap Run.nums ++ (rs[k].nums ++ (rs.drop (k + 1)).flatMap Run.nums) := by
    conv => lhs; rw [← List.take_append_drop k rs, List.flatMap_append, List.drop_eq_getElem_cons hk, List.flatMap_cons]
  rw [e]
  have h3 : (numsUpto rs[k] (n + 1)).length ≤ rs[k].nums.length := by
    have := numsUpto_le rs[k] (n + 1) (by omega) (rs[k].last - n).toNat
    rw [show n + 1 + (((rs[k].last - n).toNat : Nat) : Int) = rs[k].last + 1 by omega] at this
    exact this
  rw [numsUpto_succ _ _ h1] at h3
  simp only [List.length_append, List.length_replicate] at h3 ⊢
  omega
theorem info_int : (Tryz.prog.info? 3).map (fun i => (i.zero, i.size, i.bytes)) = some (some (.int .i64 0), 1, 8) := by kernel_rfl
theorem intCells_snoc (l : List Int) (n : Int) : intCells (l ++ [n]) = intCells l ++ [.int .i64 n] := by simp [intCells]
theorem int_one (n : Int) : ∀ u ∈ [Value.int .i64 n], u.oneCell' = true := by
  intro u hu; simp only [List.mem_cons, List.not_mem_nil, or_false] at hu; subst hu; rfl
theorem cell_one_at (w : World) (a : Value) (t : TypeId) (n : Nat) (hn : n = w.heap.size) : ∀ j u, [a][j]? = some u → (w.alloc (.cells #[a] t)).cell? ((⟨n, 0, none⟩ : Addr).add j) = some u := by
  subst hn
  intro j u hj
  match j, hj with
  | 0, hj => simp at hj; subst hj; simp [Addr.add]
  | j + 1, hj => simp at hj
theorem expandPost_mk {rs : List Run} {w w' : World} {v : Value} {l : List Int} {er : Int} (h : expandR rs = (l, er)) (ho : w'.ownsRow w.heap.size 3 1 v l.length (intCells l)) (hb : Below w.heap.size w w') :
    ExpandPost rs w (.returned (.tuple #[v, .int .i64 er])) w' := ⟨v, by rw [h], by rw [h]; exact ho, hb⟩
/-- The list that the call owns holds xs. -/
structure Has (w W : World) (G N : Nat) (xs : List Int) : Prop where
  own : W.ownsRow w.heap.size 3 1 (.slice (some ⟨G, 0, none⟩) xs.length N) xs.length (intCells xs)
  below : Below w.heap.size w W
  base : w.heap.size ≤ G
  lt : G < W.heap.size
theorem Has.later {w W W' : World} {G N : Nat} {xs : List Int} (h : Has w W G N xs) (hb : Below W.heap.size W W') : Has w W' G N xs :=
  ⟨ownsRow_below h.own hb, h.below.trans (hb.mono h.below.size), h.base, Nat.lt_of_lt_of_le h.lt hb.size⟩
theorem hasNew {w W W' : World} {G N : Nat} (hG : W.heap.size = G) (hb : Below w.heap.size w W) (h : W'.ownsRow w.heap.size 3 1 (.slice (some ⟨G, 0, none⟩) 0 N) 0 []) (hg : W.grownBy W' none) : Has w W' G N [] := by
  refine ⟨h, hb.grown hg hb.size (fun k e => by cases e), hG ▸ hb.size, ?_⟩
  obtain ⟨_, ⟨e, _⟩ | ⟨g, cap, cur, e, _, hh, _⟩⟩ := h
  · cases e
  · cases e; exact lt_of_block hh
theorem Has.append {w W W' : World} {G N : Nat} {xs : List Int} (h : Has w W G N xs) (n : Int) (ho : W'.ownsRow w.heap.size 3 1 (.slice (some ⟨G, 0, none⟩) (xs.length + 1) N) (xs.length + 1) (intCells xs ++ [.int .i64 n])) (hg : W.grownBy W' (some G)) : Has w W' G N (xs ++ [n]) := by
  refine ⟨by rw [intCells_snoc, List.length_append]; exact ho, h.below.grown hg h.below.size (fun k e => by cases e; exact h.base), h.base, Nat.lt_of_lt_of_le h.lt hg.size⟩
/-- The block of a run that a variable holds. -/
def RunAt (W : World) (B : Nat) (r : Run) : Prop := W.heap[B]? = some (.cells #[.int .i64 r.first, .int .i64 r.last, .int .i64 r.times] 78 (0, 0))
theorem RunAt.later {W W' : World} {B : Nat} {r : Run} (h : RunAt W B r) (hb : Below W.heap.size W W') : RunAt W' B r := (hb.block B (lt_of_block h)).trans h
theorem RunAt.grown {W W' : World} {B G : Nat} {r : Run} (h : RunAt W B r) (hg : W.grownBy W' (some G)) (hn : G ≠ B) : RunAt W' B r := (hg.block B (lt_of_block h) (fun e => hn (Option.some.inj e).symm)).trans h
theorem RunAt.cells {W : World} {B : Nat} {r : Run} (h : RunAt W B r) : W.cell? ⟨B, 0, none⟩ = some (.int .i64 r.first) ∧ W.cell? ⟨B, 1, none⟩ = some (.int .i64 r.last) ∧ W.cell? ⟨B, 2, none⟩ = some (.int .i64 r.times) := by
  unfold RunAt at h
  refine ⟨?_, ?_, ?_⟩ <;> (unfold World.cell?; simp only [h]; rfl)

set_option maxHeartbeats 1000000 in
set_option maxRecDepth 100000 in
theorem expand_any (rs : List Run) (g cap : Nat) (w : World) (hg : g < w.heap.size) (hlen : rs.length ≤ 10000) (hgood : ∀ r ∈ rs, r.Good)
    (hcells : ∀ k (h : k < rs.length), w.cell? ⟨g, k * 3, none⟩ = some (.int .i64 rs[k].first) ∧ w.cell? ⟨g, k * 3 + 1, none⟩ = some (.int .i64 rs[k].last) ∧ w.cell? ⟨g, k * 3 + 2, none⟩ = some (.int .i64 rs[k].times)) :
    Calls Tryz.prog 58 #[.slice (some ⟨g, 0, none⟩) rs.length cap] w (ExpandPost rs w) := by
  have HG := Lib.hid hgood; have HC := Lib.hid hcells; clear hgood hcells
  go_enter Tryz.func58, Tryz.ntmps58
  go_wp2_with fail
  go_loopw [4, 13] (fun c i wr => ∃ k : Nat, k ≤ rs.length ∧ i = .int .i64 k ∧ c = .int .i64 (sizes (rs.take k)) ∧ Below w.heap.size w wr ∧ (∀ r ∈ rs.take k, r.last ≤ 9999)) (fun _ i _ => rs.length - (intOf i).toNat)
  case atStart => exact ⟨0, Nat.zero_le _, rfl, rfl, Below.refl _ _, by simp⟩
  case round =>
    obtain ⟨k, hk, rfl, rfl, hbw, hall⟩ := hrel
    have HB := Lib.hid hbw; have HA := Lib.hid hall; clear hbw hall
    by_cases hlt : k < rs.length
    · obtain ⟨c0, c1, c2⟩ := HC.out k hlt
      have d0 := (HB.out.cell (p := ⟨g, k * 3, none⟩) hg).trans c0
      have d1 := (HB.out.cell (p := ⟨g, k * 3 + 1, none⟩) hg).trans c1
      have d2 := (HB.out.cell (p := ⟨g, k * 3 + 2, none⟩) hg).trans c2
      have hgr := HG.out rs[k] (List.getElem_mem hlt)
      have hsz := Run.size_bd hgr
      have hss := sizes_bd (fun r hr => HG.out r (List.mem_of_mem_take hr) : ∀ r ∈ rs.take k, r.Good)
      have hle : (rs.take k).length ≤ k := List.length_take_le _ _
      have hsn : sizes (rs.take (k + 1)) = sizes (rs.take k) + rs[k].size := by rw [take_snoc' rs k hlt, sizes_snoc]
      obtain ⟨f0, fl, l1, t1, t2⟩ := hgr
      generalize sizes (rs.take k) = S at hsn hss ⊢
      have HSN := Lib.hid hsn; clear hsn c0 c1 c2
      by_cases h99 : 9999 < rs[k].last
      · go_wp2_with fail
        go_ret2
        have hx : expandR rs = ([], 7) := by
          rw [expandR, if_pos]; rw [List.any_eq_true]; exact ⟨rs[k], List.getElem_mem hlt, by simpa using h99⟩
        exact expandPost_mk hx (World.ownsRow_nil _ _ _ _) (HB.out.alloc HB.out.size _)
      · have hw1 : wrap64 ((rs[k].last - rs[k].first + 1) * rs[k].times) = rs[k].size := IntWalk.wrap64_in _ (by change _ ≤ rs[k].size ∧ rs[k].size ≤ _; omega)
        have hw2 : wrap64 (S + rs[k].size) = S + rs[k].size := IntWalk.wrap64_in _ (by omega)
        have HW1 := Lib.hid hw1; have HW2 := Lib.hid hw2; clear hw1 hw2
        go_wp2_with fail
        refine ⟨⟨k + 1, by omega, by go_num, by rw [HW1.out, HW2.out, HSN.out], HB.out.alloc HB.out.size _, ?_⟩, by simp [intOf]; omega⟩
        intro r hr
        rw [take_snoc' rs k hlt] at hr
        rcases List.mem_append.1 hr with h | h
        · exact HA.out r h
        · simp at h; subst h; omega
    · obtain rfl : k = rs.length := by omega
      have hany : rs.any (fun r => decide (9999 < r.last)) = false := by
        rw [List.any_eq_false]; intro r hr; have := HA.out r (by rw [List.take_length]; exact hr); simp; omega
      have hex : expandR rs = if 500 < sizes rs then ([], 3) else (rs.flatMap Run.nums, 0) := by rw [expandR, hany]; rfl
      have hss := sizes_bd HG.out
      have hfl := flat_length HG.out
      rw [List.take_length]
      have HEX := Lib.hid hex; clear hex hany
      by_cases h500 : 500 < sizes rs
      · have e1 : expandR rs = ([], 3) := by rw [HEX.out, if_pos h500]
        have E1 := Lib.hid e1; clear e1 hfl
        go_wp2_with fail
        go_ret2
        exact expandPost_mk E1.out (World.ownsRow_nil _ _ _ _) HB.out
      · have e1 : expandR rs = (rs.flatMap Run.nums, 0) := by rw [HEX.out, if_neg h500]
        obtain ⟨N, hN⟩ : ∃ N : Nat, (rs.flatMap Run.nums).length = N := ⟨_, rfl⟩
        rw [hN] at hfl
        have E1 := Lib.hid e1; have HN := Lib.hid hN; clear e1 hN
        rw [← hfl] at hss h500 ⊢
        clear hfl
        obtain ⟨i0, hi, hz0, hz1, hz2⟩ := info_parts info_int
        have hb2 : i0.bytes * N ≤ 281474976710656 := by rw [hz2]; omega
        have HI := Lib.hid hi; have HZ0 := Lib.hid hz0; have HZ1 := Lib.hid hz1; have HB2 := Lib.hid hb2; clear hi hz0 hz1 hz2 hb2
        have hN5 : N ≤ 500 := by omega
        have hmx : N ≤ maxLen := by unfold maxLen; omega
        clear hss h500
        go_wp2_with (at_make; refine wpList_make_own _ rfl _ _ 31 rfl w.heap.size 3 i0 (.int .i64 0) 1 Tryz.underlying31 HI.out HZ0.out HZ1.out .i64 .i64 _ N rfl rfl rfl HB2.out hmx HB.out.size ?_; intro w0 hown0 hgrow0)
        have hh := hasNew rfl HB.out hown0 hgrow0
        generalize wr.heap.size = G at hh ⊢
        clear hown0 hgrow0 HB HB2 HZ0
        go_loopw [7, 38] (fun v i wx => ∃ k : Nat, k ≤ rs.length ∧ i = .int .i64 k ∧ v = .slice (some ⟨G, 0, none⟩) ((rs.take k).flatMap Run.nums).length N ∧ Has w wx G N ((rs.take k).flatMap Run.nums)) (fun _ i _ => rs.length - (intOf i).toNat)
        case atStart => exact ⟨0, Nat.zero_le _, rfl, rfl, hh⟩
        case round =>
          clear hh
          obtain ⟨k, hk, rfl, rfl, hh⟩ := hrel
          obtain ⟨wx, rfl⟩ : ∃ wx : World, wx = wr := ⟨_, rfl⟩
          by_cases hlt : k < rs.length
          · obtain ⟨c0, c1, c2⟩ := HC.out k hlt
            have d0 := (hh.below.cell (p := ⟨g, k * 3, none⟩) hg).trans c0
            have d1 := (hh.below.cell (p := ⟨g, k * 3 + 1, none⟩) hg).trans c1
            have d2 := (hh.below.cell (p := ⟨g, k * 3 + 2, none⟩) hg).trans c2
            obtain ⟨f0, fl, l1, t1, t2⟩ := HG.out rs[k] (List.getElem_mem hlt)
            have hroom := expand_room k hlt
            rw [HN.out] at hroom
            have hsnoc : (rs.take (k + 1)).flatMap Run.nums = (rs.take k).flatMap Run.nums ++ numsUpto rs[k] (rs[k].last + 1) := by
              rw [take_snoc' rs k hlt, List.flatMap_append]; simp [Run.nums]
            clear c0 c1 c2
            generalize (rs.take k).flatMap Run.nums = O at hh hroom hsnoc ⊢
            generalize rs[k] = r at d0 d1 d2 f0 fl l1 t1 t2 hroom hsnoc
            have HROOM := Lib.hid hroom; have HSNOC := Lib.hid hsnoc; clear hroom hsnoc
            have HH := Lib.hid hh; clear hh
            go_wp2_with fail
            have hGB : G ≠ wx.heap.size := fun e => by have := HH.out.lt; omega
            go_loopw [7, 10] (fun v i wy => ∃ n : Int, r.first ≤ n ∧ n ≤ r.last + 1 ∧ i = .int .i64 n ∧ v = .slice (some ⟨G, 0, none⟩) (O ++ numsUpto r n).length N ∧ Has w wy G N (O ++ numsUpto r n) ∧ RunAt wy wx.heap.size r) (fun _ i _ => (r.last + 1 - intOf i).toNat)
            case atStart =>
              refine ⟨r.first, by omega, by omega, rfl, by rw [numsUpto_first, List.append_nil], ?_, heap_alloc_new _ _⟩
              rw [numsUpto_first, List.append_nil]; exact HH.out.later ((Below.refl _ _).alloc (Nat.le_refl _) _)
            case round =>
              obtain ⟨n, hn1, hn2, rfl, rfl, hh, hra⟩ := hrel
              obtain ⟨wy, rfl⟩ : ∃ wy : World, wy = wr := ⟨_, rfl⟩
              obtain ⟨e0, e1, e2⟩ := hra.cells
              have hsu := numsUpto_succ r n hn1
              have hrm := fun t => HROOM.out n t hn1
              have HSU := Lib.hid hsu; have HRM := Lib.hid hrm; clear hsu hrm
              generalize hU : numsUpto r n = U at hh HSU HRM ⊢
              have HU := Lib.hid hU; clear hU
              have HH2 := Lib.hid hh; have HRA := Lib.hid hra; clear hh hra
              by_cases hnl : n ≤ r.last
              · go_wp2_with fail
                go_loopw [7, 52] (fun v i wz => ∃ t : Nat, (t : Int) ≤ r.times ∧ i = .int .i64 t ∧ v = .slice (some ⟨G, 0, none⟩) (O ++ U ++ List.replicate t n).length N ∧ Has w wz G N (O ++ U ++ List.replicate t n) ∧ RunAt wz wx.heap.size r) (fun _ i _ => r.times.toNat - (intOf i).toNat)
                case atStart => exact ⟨0, by omega, rfl, by simp, by simpa using HH2.out, HRA.out⟩
                case round =>
                  obtain ⟨t, ht, rfl, rfl, hh, hra⟩ := hrel
                  obtain ⟨wz, rfl⟩ : ∃ wz : World, wz = wr := ⟨_, rfl⟩
                  have HH3 := Lib.hid hh; have HRA3 := Lib.hid hra; clear hh hra
                  by_cases htl : (t : Int) < r.times
                  · have hroom : (O ++ U ++ List.replicate t n).length + 1 ≤ N := HRM.out t hnl htl
                    have hrep : List.replicate (t + 1) n = List.replicate t n ++ [n] := List.replicate_succ'
                    have h1c := int_one n
                    have H1C := Lib.hid h1c; have HREP := Lib.hid hrep; have HRO := Lib.hid hroom; clear h1c hrep hroom
                    generalize hX : O ++ U ++ List.replicate t n = X at HH3 HRO ⊢
                    have HX := Lib.hid hX; clear hX
                    go_wp2_with (at_builtin; refine wpList_append_fits _ rfl _ _ 31 rfl w.heap.size 3 i0 1 Tryz.underlying31 HI.out HZ1.out G X.length N _ rfl (HH3.out.later ((Below.refl _ _).alloc (Nat.le_refl _) _)).own ⟨wz.heap.size, 0, none⟩ 1 1 [.int .i64 n] rfl rfl (cell_one_at _ _ _ _ rfl) H1C.out HRO.out ?_; intro w4 hown4 hgrow4)
                    have e : O ++ U ++ List.replicate (t + 1) n = X ++ [n] := by rw [HREP.out, ← List.append_assoc, HX.out]
                    refine ⟨⟨t + 1, by omega, by go_num, by rw [e, List.length_append]; rfl, ?_, ?_⟩, by simp [intOf]; omega⟩
                    · rw [e]; exact (HH3.out.later ((Below.refl _ _).alloc (Nat.le_refl _) _)).append n hown4 hgrow4
                    · exact (HRA3.out.later ((Below.refl _ _).alloc (Nat.le_refl _) _)).grown hgrow4 hGB
                  · have htt : r.times.toNat = t := by omega
                    have hnum : numsUpto r (n + 1) = U ++ List.replicate t n := by rw [HSU.out, htt]
                    have HNUM := Lib.hid hnum; clear hnum htt
                    go_wp2_with fail
                    refine ⟨⟨n + 1, by omega, by omega, rfl, by rw [HNUM.out, ← List.append_assoc], ?_, HRA3.out⟩, by simp [intOf]; omega⟩
                    rw [HNUM.out, ← List.append_assoc]; exact HH3.out
              · have hnn : n = r.last + 1 := by omega
                have hsn : (rs.take (k + 1)).flatMap Run.nums = O ++ U := by rw [HSNOC.out, ← hnn, HU.out]
                have HSN := Lib.hid hsn; clear hsn hnn
                go_wp2_with fail
                refine ⟨⟨k + 1, by omega, by go_num, by rw [HSN.out], ?_⟩, by simp [intOf]; omega⟩
                rw [HSN.out]; exact HH2.out
          · obtain rfl : k = rs.length := by omega
            rw [List.take_length] at hh ⊢
            have HH := Lib.hid hh; clear hh
            go_wp2_with fail
            go_ret2
            have h2 := HH.out
            exact expandPost_mk (v := .slice (some ⟨G, 0, none⟩) (rs.flatMap Run.nums).length N) E1.out h2.own h2.below
end Go.Proofs.YtgldpdbdgjehkaaGreatDoor
