/- ParseList: what it returns. -/
import Derived.Test.YtgldpdbdgjehkaaGreatDoorDMath
import Derived.Test.YtgldpdbdgjehkaaGreatDoorPieces
namespace Go.Proofs.YtgldpdbdgjehkaaGreatDoor
open Go.RowKit

def runCells (rs : List Run) : List Value := rs.flatMap fun r => [.int .i64 r.first, .int .i64 r.last, .int .i64 r.times]
theorem runCells_length (rs : List Run) : (runCells rs).length = rs.length * 3 := by
  induction rs with
  | nil => rfl
  | cons f r ih => simp only [runCells, List.flatMap_cons, List.length_append] at ih ⊢; rw [ih]; simp; omega
theorem runCells_snoc (rs : List Run) (r : Run) : runCells (rs ++ [r]) = runCells rs ++ [.int .i64 r.first, .int .i64 r.last, .int .i64 r.times] := by simp [runCells]
theorem runCells_get : ∀ (rs : List Run) (k : Nat) (h : k < rs.length), (runCells rs)[k * 3]? = some (.int .i64 rs[k].first) ∧ (runCells rs)[k * 3 + 1]? = some (.int .i64 rs[k].last) ∧ (runCells rs)[k * 3 + 2]? = some (.int .i64 rs[k].times)
  | [], k, h => absurd h (Nat.not_lt_zero _)
  | r :: rs, 0, _ => by simp [runCells]
  | r :: rs, k + 1, h => by
    have ih := runCells_get rs k (by simpa using h)
    have e : runCells (r :: rs) = [.int .i64 r.first, .int .i64 r.last, .int .i64 r.times] ++ runCells rs := rfl
    rw [e, List.getElem?_append_right (by simp; omega), List.getElem?_append_right (by simp; omega), List.getElem?_append_right (by simp; omega)]
    simp only [List.length_cons, List.length_nil, List.getElem_cons_succ]
    rw [show (k + 1) * 3 - (0 + 1 + 1 + 1) = k * 3 by omega, show (k + 1) * 3 + 1 - (0 + 1 + 1 + 1) = k * 3 + 1 by omega, show (k + 1) * 3 + 2 - (0 + 1 + 1 + 1) = k * 3 + 2 by omega]
    exact ih
/-- An owned row of runs, cell by cell. -/
theorem own_runs {w : World} {base : Nat} {v : Value} {rs : List Run} (h : w.ownsRow base 78 3 v rs.length (runCells rs)) (hne : rs ≠ []) :
    ∃ g cap, v = .slice (some ⟨g, 0, none⟩) rs.length cap ∧ g < w.heap.size ∧ ∀ k (h : k < rs.length), w.cell? ⟨g, k * 3, none⟩ = some (.int .i64 rs[k].first) ∧ w.cell? ⟨g, k * 3 + 1, none⟩ = some (.int .i64 rs[k].last) ∧ w.cell? ⟨g, k * 3 + 2, none⟩ = some (.int .i64 rs[k].times) := by
  obtain ⟨_, ⟨_, h0⟩ | ⟨g, cap, cur, rfl, _, hh, h1, _, h2, h3⟩⟩ := h
  · exact absurd (List.length_eq_zero_iff.1 h0) hne
  · refine ⟨g, cap, rfl, lt_of_block hh, fun k hk => ?_⟩
    have hg := runCells_get rs k hk
    rw [← h3] at hg
    have key : ∀ j v, j < rs.length * 3 → (cur.toList.take (rs.length * 3))[j]? = some v → w.cell? ⟨g, j, none⟩ = some v := by
      intro j v hj e
      rw [List.getElem?_take_of_lt hj] at e
      unfold World.cell?
      simp only [hh]
      simpa using e
    exact ⟨key _ _ (by omega) hg.1, key _ _ (by omega) hg.2.1, key _ _ (by omega) hg.2.2⟩

def parseR (l : List UInt8) : List Int × Int :=
  if 2500 < l.length then ([], 3) else if l = [] then ([], 0) else
  if (pieces 44 l).all (fun p => (itemR p).2) then expandR ((pieces 44 l).map fun p => (itemR p).1) else ([], 6)
def ParsePost (s : ByteArray) (w : World) (e : Ending) (w' : World) : Prop :=
  ∃ v, e = .returned (.tuple #[v, .int .i64 (parseR s.data.toList).2]) ∧ w'.ownsRow w.heap.size 3 1 v (parseR s.data.toList).1.length (intCells (parseR s.data.toList).1) ∧ Below w.heap.size w w'
theorem parsePost_mk {s : ByteArray} {w w' : World} {v : Value} {l : List Int} {er : Int} (h : parseR s.data.toList = (l, er)) (ho : w'.ownsRow w.heap.size 3 1 v l.length (intCells l)) (hb : Below w.heap.size w w') :
    ParsePost s w (.returned (.tuple #[v, .int .i64 er])) w' := ⟨v, by rw [h], by rw [h]; exact ho, hb⟩
theorem ownsRow_mono {w : World} {b b' : Nat} {e : TypeId} {size : Nat} {v : Value} {n : Nat} {xs : List Value} (h : w.ownsRow b e size v n xs) (hb : b' ≤ b) : w.ownsRow b' e size v n xs := by
  obtain ⟨h1, h2 | ⟨g, cap, cur, hv, hg, r⟩⟩ := h
  · exact ⟨h1, .inl h2⟩
  · exact ⟨h1, .inr ⟨g, cap, cur, hv, Nat.le_trans hb hg, r⟩⟩
theorem info_run : (Tryz.prog.info? 78).map (fun i => (i.zero, i.size, i.bytes)) = some (some (.agg #[.int .i64 0, .int .i64 0, .int .i64 0]), 3, 24) := by kernel_rfl
theorem run_one (a b c : Int) : ∀ u ∈ [Value.int .i64 a, .int .i64 b, .int .i64 c], u.oneCell' = true := by
  intro u hu; simp only [List.mem_cons, List.not_mem_nil, or_false] at hu
  rcases hu with rfl | rfl | rfl <;> rfl
theorem cell_three_at (w : World) (a b c : Value) (t : TypeId) (n : Nat) (hn : n = w.heap.size) : ∀ j u, [a, b, c][j]? = some u → (w.alloc (.cells #[a, b, c] t)).cell? ((⟨n, 0, none⟩ : Addr).add j) = some u := by
  subst hn
  intro j u hj
  match j, hj with
  | 0, hj => simp at hj; subst hj; simp [Addr.add]
  | 1, hj => simp at hj; subst hj; simp [Addr.add]
  | 2, hj => simp at hj; subst hj; simp [Addr.add]
  | j + 3, hj => simp at hj

/-- What holds at the head of a round. -/
structure PInv (ps : List ByteArray) (w : World) (v : Value) (k : Nat) (wr : World) : Prop where
  le : k ≤ ps.length
  own : wr.ownsRow (w.heap.size + 1) 78 3 v ((ps.take k).map fun p => (itemR p.data.toList).1).length (runCells ((ps.take k).map fun p => (itemR p.data.toList).1))
  below : Below w.heap.size w wr
  strs : wr.heap[w.heap.size]? = some (.cells (ps.map Value.string).toArray 9 (0, 0))
  ok : ∀ p ∈ ps.take k, (itemR p.data.toList).2 = true
  lt : w.heap.size < wr.heap.size
theorem PInv.cell {ps : List ByteArray} {w wr : World} {v : Value} {k : Nat} (h : PInv ps w v k wr) (hk : k < ps.length) : wr.cell? ⟨w.heap.size, k, none⟩ = some (.string ps[k]) := by
  unfold World.cell?; simp only [h.strs]; simp [hk]

set_option maxHeartbeats 1000000 in
set_option maxRecDepth 100000 in
theorem parse_loop (s : ByteArray) (w : World) (he : Env w) (hs : s.size ≤ 2500) (hne : 0 < s.size) :
    Calls Tryz.prog 25 #[.string s] w (ParsePost s w) := by
  obtain ⟨i0, hi, hz0, hz1, hz2⟩ := info_parts info_run
  have er : parseR s.data.toList = if (pieces 44 s.data.toList).all (fun p => (itemR p).2) then expandR ((pieces 44 s.data.toList).map fun p => (itemR p).1) else ([], 6) := by
    rw [parseR, if_neg (by rw [size_list]; omega), if_neg (by intro e; rw [← size_list, e] at hne; exact absurd hne (by decide))]
  obtain ⟨m, hm⟩ := he.maxlen
  have hsn : ¬ s.toList = [] := by rw [Lib.toList_data]; intro e; rw [← size_list, e] at hne; exact absurd hne (by decide)
  have hse : s.toList.isEmpty = false := by simpa using hsn
  have h25 : ¬ (2500 : Int) < s.size := by omega
  have hpl := Lib.splitB_all ⟨#[44]⟩ (by decide) 0 _ s rfl
  have hpp := splitB_pieces 44 s
  have hcl := Lib.countB_le ⟨#[44]⟩ (by decide) _ s (Nat.le_refl _)
  have csp := Tryz.strings_Split s ⟨#[44]⟩ m w (by omega) hm (by decide)
  rw [← hpl] at csp
  have hbd : ∀ p ∈ Lib.splitB ⟨#[44]⟩ 0 (Lib.countB s ⟨#[44]⟩) s, p.size ≤ 2500 := by
    intro p hp
    have := pieces_len 44 s.data.toList p.data.toList (by rw [← hpp]; exact List.mem_map_of_mem hp)
    rw [size_list, size_list] at this; omega
  generalize Lib.splitB ⟨#[44]⟩ 0 (Lib.countB s ⟨#[44]⟩) s = ps at csp hpp hpl hbd
  rw [← hpp, List.all_map, List.map_map] at er
  change parseR s.data.toList = if ps.all (fun p => (itemR p.data.toList).2) then expandR (ps.map fun p => (itemR p.data.toList).1) else ([], 6) at er
  have hpn : ps.length ≤ 2501 := by omega
  have hp1 : 0 < ps.length := by omega
  have ER := Lib.hid er; have CSP := Lib.hid csp; have HE := Lib.hid he; have HBD := Lib.hid hbd
  have HI := Lib.hid hi; have HZ0 := Lib.hid hz0; have HZ1 := Lib.hid hz1; have HZ2 := Lib.hid hz2
  clear er csp he hpp hpl hcl hm hbd hi hz0 hz1 hz2
  go_enter Tryz.func25, Tryz.ntmps25
  go_wp2_with (go_at_call 56; refine (CSP.out).mono ?_; rintro e w1 ⟨rfl, rfl⟩)
  go_loopw [4, 17] (fun v i wr => ∃ k : Nat, i = .int .i64 k ∧ PInv ps w v k wr) (fun _ i _ => ps.length - (intOf i).toNat)
  case atStart =>
    exact ⟨0, rfl, Nat.zero_le _, World.ownsRow_nil _ _ _ _, (Below.refl _ _).alloc (Nat.le_refl _) _, heap_alloc_new _ _, by simp, by simp⟩
  case round =>
    obtain ⟨k, rfl, hinv⟩ := hrel
    obtain ⟨wx, rfl⟩ : ∃ wx : World, wx = wr := ⟨_, rfl⟩
    have HV := Lib.hid hinv; clear hinv
    by_cases hlt : k < ps.length
    · have d0 := HV.out.cell hlt
      have ci := fun W hE => item_any ps[k] W hE (by have := HBD.out ps[k] (List.getElem_mem hlt); omega)
      have hsn : (ps.take (k + 1)).map (fun p => (itemR p.data.toList).1) = (ps.take k).map (fun p => (itemR p.data.toList).1) ++ [(itemR ps[k].data.toList).1] := by
        rw [take_snoc' ps k hlt, List.map_append]; rfl
      have hno : (itemR ps[k].data.toList).2 = false → parseR s.data.toList = ([], 6) := by
        intro h
        rw [ER.out, if_neg]
        intro ha; rw [List.all_eq_true] at ha
        have := ha ps[k] (List.getElem_mem hlt)
        rw [h] at this; exact absurd this (by simp)
      have hyes : (itemR ps[k].data.toList).2 = true → ∀ p ∈ ps.take (k + 1), (itemR p.data.toList).2 = true := by
        intro h p hp
        rw [take_snoc' ps k hlt] at hp
        rcases List.mem_append.1 hp with h' | h'
        · exact HV.out.ok p h'
        · simp at h'; subst h'; exact h
      have hE1 := HE.out.below HV.out.below
      generalize itemR ps[k].data.toList = q at ci hsn hno hyes
      obtain ⟨r, ok⟩ := q
      simp only at ci hsn hno hyes
      unfold runV at ci
      have CI := Lib.hid ci; have HSN := Lib.hid hsn; have HNO := Lib.hid hno; have HYES := Lib.hid hyes; have HE1 := Lib.hid hE1
      clear ci hsn hno hyes hE1
      cases ok
      · go_wp2_with (go_at_call 57; refine (CI.out _ HE1.out).mono ?_; rintro e w2 ⟨rfl, hb2⟩; have HB2 := Lib.hid hb2; clear hb2)
        go_ret2
        exact parsePost_mk (HNO.out (by simp)) (World.ownsRow_nil _ _ _ _) ((HV.out.below.trans (HB2.out.mono HV.out.below.size)).alloc (Nat.le_trans HV.out.below.size HB2.out.size) _)
      · have hyes := HYES.out (by simp)
        have HYES2 := Lib.hid hyes
        have h1c := run_one r.first r.last r.times
        have hb1 : ((ps.take k).map fun p => (itemR p.data.toList).1).length + 1 ≤ maxLen := by unfold maxLen; simp; omega
        have hb2 : (((ps.take k).map fun p => (itemR p.data.toList).1).length + 1) * 24 ≤ 140737488355328 := by simp; omega
        have H1C := Lib.hid h1c; have HL1 := Lib.hid hb1; have HL2 := Lib.hid hb2
        have hown := HV.out.own
        generalize (ps.take k).map (fun p => (itemR p.data.toList).1) = R at HSN HL1 HL2 hown
        have HOWN := Lib.hid hown
        have hz1 := HV.out.lt
        clear h1c hb1 hb2 hyes hown
        go_wp2_with (first
          | (go_at_call 57; refine (CI.out _ HE1.out).mono ?_; rintro e w2 ⟨rfl, hb2⟩; have HB2 := Lib.hid hb2; have hown2 := ownsRow_below HOWN.out hb2; have HOWN2 := Lib.hid hown2; have hz2 : w.heap.size < w2.heap.size := Nat.lt_of_lt_of_le hz1 hb2.size; clear hb2 hown2)
          | (at_builtin; refine wpList_append_own _ rfl _ _ 75 rfl (w.heap.size + 1) 78 i0 (.agg #[.int .i64 0, .int .i64 0, .int .i64 0]) 3 24 Tryz.underlying75 HI.out HZ0.out HZ1.out HZ2.out rfl (by decide) _ _ _ rfl (ownsRow_below HOWN2.out (((Below.refl _ _).alloc (Nat.le_refl _) _).alloc (by simp) _)) ⟨w2.heap.size + 1, 0, none⟩ 1 1 [.int .i64 r.first, .int .i64 r.last, .int .i64 r.times] rfl rfl (cell_three_at _ _ _ _ _ _ (by simp)) H1C.out HL1.out HL2.out (by simp; omega) ?_; intro v3 w3 hown3 hgrow hnil3))
        refine ⟨⟨k + 1, by go_num, ?_⟩, by simp [intOf]; omega⟩
        have hbb : Below (w.heap.size + 1) wx w3 := (((HB2.out.mono hz1).alloc (by omega) _).alloc (by simp; omega) _).grown hgrow (by simp; omega) (own_block HOWN2.out)
        refine ⟨by omega, ?_, HV.out.below.trans (hbb.mono (by omega)), (hbb.block _ (by omega)).trans HV.out.strs, HYES2.out, Nat.lt_of_lt_of_le hz1 hbb.size⟩
        rw [HSN.out, List.length_append, runCells_snoc]; exact hown3
    · obtain rfl : k = ps.length := by have := HV.out.le; omega
      have hok := HV.out.ok
      have hown := HV.out.own
      rw [List.take_length] at hok hown
      have hall : ps.all (fun p => (itemR p.data.toList).2) = true := List.all_eq_true.2 hok
      have hgood : ∀ r ∈ ps.map (fun p => (itemR p.data.toList).1), r.Good := by
        intro r hr
        obtain ⟨p, hp, rfl⟩ := List.mem_map.1 hr
        exact item_good _ (hok p hp)
      have hlen : (ps.map fun p => (itemR p.data.toList).1).length ≤ 10000 := by simp; omega
      have hre : parseR s.data.toList = expandR (ps.map fun p => (itemR p.data.toList).1) := by rw [ER.out, if_pos hall]
      have hrn : ps.map (fun p => (itemR p.data.toList).1) ≠ [] := by intro e; have := congrArg List.length e; rw [List.length_map, List.length_nil] at this; omega
      generalize ps.map (fun p => (itemR p.data.toList).1) = R at hown hgood hlen hre hrn
      obtain ⟨g, cap, rfl, hg, hcells⟩ := own_runs hown hrn
      have ce := expand_any R g cap wx hg hlen hgood hcells
      have CE := Lib.hid ce; have HRE := Lib.hid hre; have HB := Lib.hid HV.out.below
      clear hok hown hall hgood hlen hrn hcells ce hre
      go_wp2_with (go_at_call 58; refine (CE.out).mono ?_; rintro e w2 ⟨v, rfl, hown2, hb2⟩; have HO2 := Lib.hid hown2; have HB2 := Lib.hid hb2; clear hown2 hb2)
      go_ret2
      refine ⟨v, by rw [HRE.out]; rfl, ?_, HB.out.trans (HB2.out.mono HB.out.size)⟩
      rw [HRE.out]; exact ownsRow_mono HO2.out HB.out.size
theorem parse_any (s : ByteArray) (w : World) (he : Env w) (hs : s.size ≤ maxLen) : Calls Tryz.prog 25 #[.string s] w (ParsePost s w) := by
  by_cases h1 : s.size ≤ 2500
  · by_cases h0 : 0 < s.size
    · exact parse_loop s w he h1 h0
    · obtain rfl : s = ⟨#[]⟩ := by obtain ⟨⟨l⟩⟩ := s; cases l with | nil => rfl | cons a b => exact absurd (Nat.succ_pos _) h0
      clear he h0 h1 hs
      go_enter Tryz.func25, Tryz.ntmps25
      go_wp2_with fail
      go_ret2
      exact parsePost_mk (l := []) rfl (World.ownsRow_nil _ _ _ _) (Below.refl _ _)
  · have h1' : (2500 : Int) < s.size := by omega
    have er : parseR s.data.toList = ([], 3) := by rw [parseR, if_pos (by rw [size_list]; omega)]
    have ER := Lib.hid er; clear er he
    go_enter Tryz.func25, Tryz.ntmps25
    go_wp2_with fail
    go_ret2
    exact parsePost_mk (l := []) ER.out (World.ownsRow_nil _ _ _ _) (Below.refl _ _)
end Go.Proofs.YtgldpdbdgjehkaaGreatDoor
