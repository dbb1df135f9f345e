/- Split: what it returns. -/
import Derived.Test.YtgldpdbdgjehkaaGreatDoorRead
import Derived.WalkSmall
namespace Go.Proofs.YtgldpdbdgjehkaaGreatDoor
open Go.RowKit

/-- A field: quoted?, its string. -/
abbrev Fld := Bool × List UInt8
def fldCells (fs : List Fld) : List Value := fs.flatMap fun f => [.bool f.1, .string ⟨f.2.toArray⟩]
theorem fldCells_length (fs : List Fld) : (fldCells fs).length = fs.length * 2 := by
  induction fs with
  | nil => rfl
  | cons f r ih => simp only [fldCells, List.flatMap_cons, List.length_append] at ih ⊢; rw [ih]; simp; omega
theorem fldCells_snoc (fs : List Fld) (f : Fld) : fldCells (fs ++ [f]) = fldCells fs ++ [.bool f.1, .string ⟨f.2.toArray⟩] := by simp [fldCells]
/-- The fields of what is left of a line, fuel rounds at most; nothing if one is none. -/
def splitF : Nat → List UInt8 → Option (List Fld)
  | 0, _ => none
  | n + 1, rest =>
    if (readR (cutR rest).1).2.2 = false then none
    else if (cutR rest).2.2 then (splitF n (cutR rest).2.1).map (((readR (cutR rest).1).1, (readR (cutR rest).1).2.1) :: ·)
    else some [((readR (cutR rest).1).1, (readR (cutR rest).1).2.1)]
def splitR (l : List UInt8) : List Fld × Int :=
  if 4096 < l.length then ([], 3) else if l = [] then ([], 0) else
  match splitF (l.length + 1) l with
  | none => ([], 6)
  | some fs => if 64 < fs.length then ([], 3) else (fs, 0)
theorem cutR_len (l : List UInt8) (h : (cutR l).2.2 = true) : (cutR l).2.1.length < l.length := by
  unfold cutR at h ⊢
  by_cases h0 : scanL l false 0 < 0
  · rw [if_pos h0] at h; simp at h
  · rw [if_neg h0]
    rcases scanL_range l false 0 with hs | ⟨k, hk, hl⟩
    · rw [hs] at h0; exact absurd (by decide) h0
    · rw [hk]; simp; omega
theorem cutR_len1 (l : List UInt8) : (cutR l).1.length ≤ l.length := by
  unfold cutR; split
  · simp
  · simp; omega

theorem cutR_len2 (l : List UInt8) : (cutR l).2.1.length ≤ l.length := by
  unfold cutR; split
  · simp
  · simp
theorem own_block {w : World} {base : Nat} {e : TypeId} {size : Nat} {v : Value} {n : Nat} {xs : List Value} (h : w.ownsRow base e size v n xs) : ∀ k, v.ownBlock = some k → base ≤ k := by
  obtain ⟨h1, ⟨rfl, _⟩ | ⟨g, cap, cur, rfl, hg, _⟩⟩ := h
  · intro k e; cases e
  · intro k e; cases e; exact hg
theorem info_field : (Tryz.prog.info? 55).map (fun i => (i.zero, i.size, i.bytes)) = some (some (.agg #[.bool false, .string ⟨#[]⟩]), 2, 24) := by kernel_rfl

/-- What is to come: the answer of the rest, behind what was found. -/
def restF (acc : List Fld) (more : Bool) (n : Nat) (rest : List UInt8) : Option (List Fld) := if more then (splitF n rest).map (acc ++ ·) else some acc

theorem restF_step (acc : List Fld) (n : Nat) (rest : List UInt8) : restF acc true (n + 1) rest = if (readR (cutR rest).1).2.2 = false then none else restF (acc ++ [((readR (cutR rest).1).1, (readR (cutR rest).1).2.1)]) (cutR rest).2.2 n (cutR rest).2.1 := by
  unfold restF
  rw [if_pos rfl, splitF]
  by_cases h1 : (readR (cutR rest).1).2.2 = false
  · rw [if_pos h1, if_pos h1]; rfl
  · rw [if_neg h1, if_neg h1]
    by_cases h2 : (cutR rest).2.2 = true
    · rw [if_pos h2, if_pos h2, Option.map_map]
      congr 1; funext x; simp
    · rw [if_neg h2, if_neg h2]; rfl
theorem ba_size (l : List UInt8) : (⟨l.toArray⟩ : ByteArray).size = l.length := by simp [ByteArray.size]
theorem split_loop_end (l : List UInt8) (acc : List Fld) (n : Nat) (rest : List UInt8) (h : restF acc false n rest = splitF (l.length + 1) l) : splitF (l.length + 1) l = some acc := h.symm

theorem ownsRow_below {w w' : World} {base : Nat} {e : TypeId} {size : Nat} {v : Value} {n : Nat} {xs : List Value} (h : w.ownsRow base e size v n xs) (hb : Below w.heap.size w w') : w'.ownsRow base e size v n xs := by
  obtain ⟨h1, h2⟩ := h
  refine ⟨h1, ?_⟩
  rcases h2 with h2 | ⟨g, cap, cur, hv, hg, hh, r⟩
  · exact .inl h2
  · exact .inr ⟨g, cap, cur, hv, hg, (hb.block g (lt_of_block hh)).trans hh, r⟩
theorem cell_two_at (w : World) (a b : Value) (t : TypeId) (n : Nat) (hn : n = w.heap.size) : ∀ j u, [a, b][j]? = some u → (w.alloc (.cells #[a, b] t)).cell? ((⟨n, 0, none⟩ : Addr).add j) = some u := by
  subst hn; exact cell_two_new w a b t
theorem fld_one (qd : Bool) (str : List UInt8) : ∀ u ∈ [Value.bool qd, .string ⟨str.toArray⟩], u.oneCell' = true := by
  intro u hu
  simp only [List.mem_cons, List.not_mem_nil, or_false] at hu
  rcases hu with rfl | rfl <;> rfl
/-- What holds at the head of a round. -/
def SplitInv (s : ByteArray) (w : World) (n : Nat) (v rv mv : Value) (wr : World) : Prop :=
  ∃ (acc : List Fld) (rest : List UInt8) (more : Bool), wr.ownsRow w.heap.size 55 2 v acc.length (fldCells acc) ∧ rv = .string ⟨rest.toArray⟩ ∧ mv = .bool more ∧ Below w.heap.size w wr ∧
    restF acc more n rest = splitF (s.data.toList.length + 1) s.data.toList ∧ acc.length + (if more then rest.length + 1 else 0) ≤ 4097 ∧ (more = true → rest.length < n) ∧ rest.length ≤ 4096

def SplitPost (s : ByteArray) (w : World) (e : Ending) (w' : World) : Prop :=
  ∃ v, e = .returned (.tuple #[v, .int .i64 (splitR s.data.toList).2]) ∧ w'.ownsRow w.heap.size 55 2 v (splitR s.data.toList).1.length (fldCells (splitR s.data.toList).1) ∧ Below w.heap.size w w'
theorem splitPost_mk {s : ByteArray} {w w' : World} {v : Value} {fs : List Fld} {er : Int} (h : splitR s.data.toList = (fs, er)) (ho : w'.ownsRow w.heap.size 55 2 v fs.length (fldCells fs)) (hb : Below w.heap.size w w') :
    SplitPost s w (.returned (.tuple #[v, .int .i64 er])) w' := ⟨v, by rw [h], by rw [h]; exact ho, hb⟩
theorem splitR_of (s : ByteArray) (hs : s.size ≤ 4096) (hne : 0 < s.size) : splitR s.data.toList = match splitF (s.data.toList.length + 1) s.data.toList with
      | none => ([], 6)
      | some fs => if 64 < fs.length then ([], 3) else (fs, 0) := by
  rw [splitR, if_neg (by rw [size_list]; omega), if_neg (by intro e; rw [← size_list, e] at hne; exact absurd hne (by decide))]

set_option maxHeartbeats 1000000 in
set_option maxRecDepth 100000 in
theorem split_loop (s : ByteArray) (w : World) (he : Env w) (hs : s.size ≤ 4096) (hne : 0 < s.size) :
    Calls Tryz.prog 36 #[.string s] w (SplitPost s w) := by
  obtain ⟨i0, hi, hz0, hz1, hz2⟩ := info_parts info_field
  have er := splitR_of s hs hne
  have hsn : ¬ s.toList = [] := by rw [Lib.toList_data]; intro e; rw [← size_list, e] at hne; exact absurd hne (by decide)
  have hse : s.toList.isEmpty = false := by simpa using hsn
  have h96 : ¬ (4096 : Int) < s.size := by omega
  have HE := Lib.hid he; have HI := Lib.hid hi; have HZ0 := Lib.hid hz0; have HZ1 := Lib.hid hz1; have HZ2 := Lib.hid hz2; have ER := Lib.hid er
  clear he er hi hz0 hz1 hz2
  go_enter Tryz.func36, Tryz.ntmps36
  go_wp2_with fail
  go_loopg [4, 5, 6] (s.size + 1) (fun n v rv mv wr => SplitInv s w n v rv mv wr)
  case atStart =>
    refine ⟨[], s.data.toList, true, World.ownsRow_nil _ _ _ _, congrArg Value.string (ba_list s).symm, rfl, Below.refl _ _, ?_, by simp; omega, fun _ => by rw [size_list]; omega, by rw [size_list]; omega⟩
    rw [size_list]
    unfold restF; rw [if_pos rfl]; simp
  case round =>
    obtain ⟨acc, rest, more, hown, rfl, rfl, hbw, hfin, hlen, hfu, hr96⟩ := hrel
    cases more
    · have hend := split_loop_end s.data.toList acc gk rest hfin
      have HEND := Lib.hid hend
      have HB := Lib.hid hbw; clear hfin hend hfu hlen hbw
      by_cases h64 : 64 < acc.length
      · rcases hown with ⟨ho1, ⟨rfl, hn⟩ | ⟨g, cap, cur, rfl, ho2⟩⟩
        · omega
        · have h64' : (64 : Int) < acc.length := by omega
          clear ho1 ho2
          go_wp2_with fail
          go_ret2
          exact splitPost_mk (by rw [ER.out, HEND.out]; simp only; rw [if_pos h64]) (World.ownsRow_nil _ _ _ _) HB.out
      · have h64' : ¬ (64 : Int) < acc.length := by omega
        rcases hown with ⟨ho1, ⟨rfl, hn⟩ | ⟨g, cap, cur, rfl, ho2⟩⟩
        · have HO : Hid (wr.ownsRow w.heap.size 55 2 (.slice none 0 0) acc.length (fldCells acc)) := Lib.hid ⟨ho1, .inl ⟨rfl, hn⟩⟩
          clear ho1 hn
          go_wp2_with fail
          go_ret2
          exact splitPost_mk (by rw [ER.out, HEND.out]; simp only; rw [if_neg h64]) HO.out HB.out
        · have HO : Hid (wr.ownsRow w.heap.size 55 2 (.slice (some ⟨g, 0, none⟩) acc.length cap) acc.length (fldCells acc)) := Lib.hid ⟨ho1, .inr ⟨g, cap, cur, rfl, ho2⟩⟩
          clear ho1 ho2
          go_wp2_with fail
          go_ret2
          exact splitPost_mk (by rw [ER.out, HEND.out]; simp only; rw [if_neg h64]) HO.out HB.out
    · obtain ⟨n', rfl⟩ : ∃ n', gk = n' + 1 := ⟨gk - 1, by have := hfu rfl; omega⟩
      have hfu' := hfu rfl
      clear hfu
      rw [restF_step] at hfin
      have hcl := cutR_len rest
      have hcl1 := cutR_len1 rest
      have hcl2 := cutR_len2 rest
      have cc := fun W => cutField_any ⟨rest.toArray⟩ W (by rw [ba_size]; unfold maxLen; omega)
      rw [show (⟨rest.toArray⟩ : ByteArray).data.toList = rest by simp] at cc
      generalize cutR rest = r at cc hfin hcl hcl1 hcl2
      obtain ⟨t, r', m'⟩ := r
      simp only at cc hfin hcl hcl1 hcl2
      have cr := fun W hE => readField_any ⟨t.toArray⟩ W hE (by rw [ba_size]; omega)
      rw [show (⟨t.toArray⟩ : ByteArray).data.toList = t by simp] at cr
      generalize readR t = q at cr hfin
      obtain ⟨qd, str, ok⟩ := q
      simp only at cr hfin
      have CC := Lib.hid cc; have CR := Lib.hid cr; have HFIN := Lib.hid hfin; have HBW := Lib.hid hbw; have HCL := Lib.hid hcl
      have hE1 := HE.out.below hbw
      have HE1 := Lib.hid hE1
      clear cc cr hfin hbw hcl hE1
      simp only [if_true] at hlen
      cases ok
      · go_wp2_with (first | (go_at_call 65; refine (CC.out _).mono ?_; rintro e w1 ⟨rfl, hb1⟩; have HB1 := Lib.hid hb1; clear hb1) | (go_at_call 66; refine (CR.out _ (HE1.out.below HB1.out)).mono ?_; rintro e w2 ⟨rfl, hb2⟩; have HB2 := Lib.hid hb2; clear hb2))
        go_ret2
        have hb := (HB1.out.trans (HB2.out.mono HB1.out.size)).mono HBW.out.size
        exact splitPost_mk (fs := []) (by rw [ER.out, ← HFIN.out]; simp) (World.ownsRow_nil _ _ _ _) ((HBW.out.trans hb).alloc (Nat.le_trans HBW.out.size (Nat.le_trans HB1.out.size HB2.out.size)) _)
      · have h1c := fld_one qd str
        have H1C := Lib.hid h1c
        have hb1 : acc.length + 1 ≤ maxLen := by unfold maxLen; omega
        have hb2 : (acc.length + 1) * 24 ≤ 140737488355328 := by omega
        have HL1 := Lib.hid hb1; have HL2 := Lib.hid hb2; clear hb1 hb2 h1c
        have HOWN := Lib.hid hown; clear hown
        go_wp2_with (first
          | (go_at_call 65; refine (CC.out _).mono ?_; rintro e w1 ⟨rfl, hb1⟩; have HB1 := Lib.hid hb1; clear hb1)
          | (go_at_call 66; refine (CR.out _ (HE1.out.below HB1.out)).mono ?_; rintro e w2 ⟨rfl, hb2⟩; have HB2 := Lib.hid hb2; have hown2 := ownsRow_below (ownsRow_below HOWN.out HB1.out) hb2; have HOWN2 := Lib.hid hown2; have hz2 : w.heap.size ≤ w2.heap.size := Nat.le_trans HBW.out.size (Nat.le_trans HB1.out.size hb2.size); clear hb2 hown2)
          | (at_builtin; refine wpList_append_own _ rfl _ _ 45 rfl w.heap.size 55 i0 (.agg #[.bool false, .string ⟨#[]⟩]) 2 24 Tryz.underlying45 HI.out HZ0.out HZ1.out HZ2.out rfl (by decide) _ _ _ rfl (ownsRow_below HOWN2.out (((Below.refl _ _).alloc (Nat.le_refl _) _).alloc (by simp) _)) ⟨w2.heap.size + 1, 0, none⟩ 1 1 [.bool qd, .string ⟨str.toArray⟩] rfl rfl (cell_two_at _ _ _ _ _ (by simp)) H1C.out HL1.out HL2.out (by simp; omega) ?_; intro v3 w3 hown3 hgrow hnil3))
        go_roundg n'
        case measure => omega
        case rel =>
          have hcl := HCL.out
          refine ⟨acc ++ [(qd, str)], r', m', ?_, rfl, rfl, ?_, ?_, ?_, ?_, by omega⟩
          · rw [fldCells_snoc, List.length_append]; exact hown3
          · have hb := HBW.out.trans ((HB1.out.trans (HB2.out.mono HB1.out.size)).mono HBW.out.size)
            exact ((hb.alloc (by omega) _).alloc (by simp; omega) _).grown hgrow (by simp; omega) (own_block HOWN2.out)
          · rw [← HFIN.out]; simp
          · rw [List.length_append]
            cases m' <;> simp <;> simp at hcl <;> omega
          · intro hm; have := hcl hm; omega
theorem split_any (s : ByteArray) (w : World) (he : Env w) (hs : s.size ≤ maxLen) : Calls Tryz.prog 36 #[.string s] w (SplitPost s w) := by
  by_cases h1 : s.size ≤ 4096
  · by_cases h0 : 0 < s.size
    · exact split_loop s w he h1 h0
    · obtain rfl : s = ⟨#[]⟩ := by obtain ⟨⟨l⟩⟩ := s; cases l with | nil => rfl | cons a b => exact absurd (Nat.succ_pos _) h0
      clear he h0 h1 hs
      go_enter Tryz.func36, Tryz.ntmps36
      go_wp2_with fail
      refine wp_loop_rounds 1 ?_
      rw [rounds_succ]
      go_wp2
      go_ret2
      exact splitPost_mk (fs := []) rfl (World.ownsRow_nil _ _ _ _) (Below.refl _ _)
  · have h1' : (4096 : Int) < s.size := by omega
    have er : splitR s.data.toList = ([], 3) := by rw [splitR, if_pos (by rw [size_list]; omega)]
    have ER := Lib.hid er; clear er he
    go_enter Tryz.func36, Tryz.ntmps36
    go_wp2_with fail
    go_ret2
    exact splitPost_mk (fs := []) ER.out (World.ownsRow_nil _ _ _ _) (Below.refl _ _)
end Go.Proofs.YtgldpdbdgjehkaaGreatDoor
