/- The reference's ParseList: too long, or nothing. The reference's ParseList: what its first loop reads. The reference's ParseList, at a text that is not empty and not too long. -/
import Derived.Test.YtgldpdbdgjehkaaGreatDoorRParseSum
import Derived.Test.YtgldpdbdgjehkaaGreatDoorRRead
import Derived.Test.YtgldpdbdgjehkaaGreatDoorRLines
import Derived.Deep.DeepCutAuto
import Derived.Deep.RegionHeld3
namespace Go.Proofs.YtgldpdbdgjehkaaGreatDoor
open Go.RowKit Go.Shelf

set_option maxHeartbeats 1000000 in
theorem rparse_long (s : ByteArray) (w : World) (h : 2500 < s.size) (hs : s.size ≤ maxLen) : Calls Tryz.prog 26 #[.string s] w (ParsePost s w) := by
  have hbad : parseR s.data.toList = ([], 3) := by unfold parseR; rw [if_pos (by rw [Array.length_toList]; exact h)]
  have h' : (2500 : Int) < s.size := by omega
  have HBAD := Lib.hid hbad; clear hbad
  go_enter Tryz.func26, Tryz.ntmps26
  go_wp2_with fail
  go_ret2
  exact parsePost_mk HBAD.out (World.ownsRow_nil _ _ _ _) (Below.refl _ _)
set_option maxHeartbeats 1000000 in
theorem rparse_none (s : ByteArray) (w : World) (h : s.size = 0) : Calls Tryz.prog 26 #[.string s] w (ParsePost s w) := by
  have hnil : s.data.toList = [] := List.eq_nil_of_length_eq_zero (by rw [Array.length_toList]; exact h)
  have hok : parseR s.data.toList = ([], 0) := by rw [hnil]; rfl
  have HOK := Lib.hid hok; clear hok hnil
  go_enter Tryz.func26, Tryz.ntmps26
  go_wp2_with fail
  refine wp_loop_rounds 1 ?_
  rw [rounds_succ]
  go_wp2_with fail
  refine wp_loop_rounds 1 ?_
  rw [rounds_succ]
  go_wp2_with fail
  refine wp_loop_rounds 1 ?_
  rw [rounds_succ]
  go_wp2_with fail
  go_ret2
  exact parsePost_mk HOK.out (World.ownsRow_nil _ _ _ _) (Below.refl _ _)
end Go.Proofs.YtgldpdbdgjehkaaGreatDoor
namespace Go.Proofs.YtgldpdbdgjehkaaGreatDoor
open Go.RowKit Go.Shelf

/-- The cells of the items that are read from these pieces. -/
def itemCells (ps : List (List UInt8)) : List Value := ps.flatMap fun p => [.string ⟨(readI p).1.1.toArray⟩, .string ⟨(readI p).1.2.1.toArray⟩, .string ⟨(readI p).1.2.2.toArray⟩]
theorem itemCells_snoc (ps : List (List UInt8)) (p : List UInt8) : itemCells (ps ++ [p]) = itemCells ps ++ [.string ⟨(readI p).1.1.toArray⟩, .string ⟨(readI p).1.2.1.toArray⟩, .string ⟨(readI p).1.2.2.toArray⟩] := by simp [itemCells]
theorem info_item : (Tryz.prog.info? 84).map (fun i => (i.zero, i.size, i.bytes)) = some (some (.agg #[.string ⟨#[]⟩, .string ⟨#[]⟩, .string ⟨#[]⟩]), 3, 48) := by kernel_rfl
theorem strs_one (a b c : ByteArray) : ∀ u ∈ [Value.string a, .string b, .string c], u.oneCell' = true := by
  intro u hu; simp only [List.mem_cons, List.not_mem_nil, or_false] at hu
  rcases hu with rfl | rfl | rfl <;> rfl
/-- What holds at the head of a round: the pieces that ended, and where the next one begins. -/
def RPInv (s : ByteArray) (w : World) (i : Nat) (v fv : Value) (wr : World) : Prop :=
  ∃ (out : List (List UInt8)) (f : Nat), f ≤ i ∧ fv = .int .i64 f ∧ wr.ownsRow w.heap.size 84 3 v out.length (itemCells out) ∧ Below w.heap.size w wr ∧ out.length ≤ i ∧ (∀ p ∈ out, (readI p).2 = true) ∧
    ((i ≤ s.size ∧ pieces 44 (s.data.toList.take i) = out ++ [(s.data.toList.take i).drop f]) ∨ (i = s.size + 1 ∧ pieces 44 s.data.toList = out))

theorem itemCells_get : ∀ (ps : List (List UInt8)) (k : Nat) (h : k < ps.length), (itemCells ps)[k * 3]? = some (.string ⟨(readI ps[k]).1.1.toArray⟩) ∧ (itemCells ps)[k * 3 + 1]? = some (.string ⟨(readI ps[k]).1.2.1.toArray⟩) ∧ (itemCells ps)[k * 3 + 2]? = some (.string ⟨(readI ps[k]).1.2.2.toArray⟩)
  | [], k, h => absurd h (Nat.not_lt_zero _)
  | p :: ps, 0, _ => ⟨rfl, rfl, rfl⟩
  | p :: ps, k + 1, h => by
    have := itemCells_get ps k (Nat.lt_of_succ_lt_succ h)
    rw [show (k + 1) * 3 = k * 3 + 3 by omega]
    exact this
theorem own_items {w : World} {base : Nat} {v : Value} {ps : List (List UInt8)} (h : w.ownsRow base 84 3 v ps.length (itemCells ps)) (hne : ps ≠ []) :
    ∃ G cap, v = .slice (some ⟨G, 0, none⟩) ps.length cap ∧ base ≤ G ∧ G < w.heap.size ∧ ∀ k (hk : k < ps.length), w.cell? ⟨G, k * 3, none⟩ = some (.string ⟨(readI ps[k]).1.1.toArray⟩) ∧ w.cell? ⟨G, k * 3 + 1, none⟩ = some (.string ⟨(readI ps[k]).1.2.1.toArray⟩) ∧ w.cell? ⟨G, k * 3 + 2, none⟩ = some (.string ⟨(readI ps[k]).1.2.2.toArray⟩) := by
  have ho := h
  rcases h.2 with ⟨_, h0⟩ | ⟨G, cap, cur, rfl, hb, hg, _⟩
  · exact absurd (List.length_eq_zero_iff.1 h0) hne
  · refine ⟨G, cap, rfl, hb, lt_of_block hg, fun k hk => ?_⟩
    obtain ⟨a, b, c⟩ := itemCells_get ps k hk
    exact ⟨(ho.cellAt _ (by omega)).trans a, (ho.cellAt _ (by omega)).trans b, (ho.cellAt _ (by omega)).trans c⟩
theorem keep1 {W W' : World} {a : Addr} {X : Value} (hb : Below W.heap.size W W') (hS : W.cell? a = some X) : W'.cell? a = some X :=
  (hb.cell (World.block_lt_of_cell? W _ hS)).trans hS
theorem pieces_pre (c : UInt8) : ∀ (b a : List UInt8) (init : List (List UInt8)) (last : List UInt8), pieces c a = init ++ [last] → ∃ more, pieces c (a ++ b) = init ++ more
  | [], a, init, last, h => ⟨[last], by rw [List.append_nil]; exact h⟩
  | x :: r, a, init, last, h => by
    rw [show a ++ x :: r = (a ++ [x]) ++ r by simp]
    by_cases hx : x = c
    · subst hx
      obtain ⟨more, hm⟩ := pieces_pre x r (a ++ [x]) (init ++ [last]) [] (by rw [pieces_sep, h])
      exact ⟨last :: more, by rw [hm]; simp⟩
    · exact pieces_pre c r (a ++ [x]) init (last ++ [x]) (pieces_more c x hx a init last h)
theorem parse_bad {l : List UInt8} {out : List (List UInt8)} {p : List UInt8} {k : Nat} {t : List UInt8} (h1 : l.length ≤ 2500) (h0 : l ≠ []) (hs : pieces 44 (l.take k) = (out ++ [p]) ++ [t] ∨ pieces 44 l = out ++ [p]) (h : (readI p).2 = false) : parseR l = ([], 6) := by
  have hmem : p ∈ pieces 44 l := by
    rcases hs with hs | hs
    · obtain ⟨more, hm⟩ := pieces_pre 44 (l.drop k) _ _ _ hs
      rw [List.take_append_drop] at hm
      rw [hm]; simp
    · rw [hs]; simp
  unfold parseR
  rw [if_neg (by omega), if_neg h0, if_neg]
  intro ha
  have := List.all_eq_true.1 ha p hmem
  rw [(readI_item p).1, h] at this; cases this

end Go.Proofs.YtgldpdbdgjehkaaGreatDoor
namespace Go.Proofs.YtgldpdbdgjehkaaGreatDoor
open Go.RowKit Go.Shelf

/-- The list of numbers that the call owns, its row behind the blocks of wb. -/
def OutAt (wb : World) (v : Value) (L : List Int) (W : World) : Prop := W.ownsRow wb.heap.size 3 1 v L.length (intCells L) ∧ Below wb.heap.size wb W
theorem OutAt.later {wb W W' : World} {v : Value} {L : List Int} (h : OutAt wb v L W) (hb : Below W.heap.size W W') : OutAt wb v L W' :=
  ⟨ownsRow_below h.1 hb, h.2.trans (hb.mono h.2.size)⟩

theorem own_slice {w : World} {base : Nat} {e : TypeId} {c n : Nat} {v : Value} {xs : List Value} (h : w.ownsRow base e c v n xs) : ∃ p k, v = .slice p n k := by
  rcases h.2 with ⟨rfl, rfl⟩ | ⟨G, cap, cur, rfl, _⟩
  · exact ⟨_, _, rfl⟩
  · exact ⟨_, _, rfl⟩
set_option maxHeartbeats 2000000 in
set_option maxRecDepth 100000 in
theorem rparse_in (s : ByteArray) (w : World) (he : Env w) (hs : s.size ≤ 2500) (h0 : 0 < s.size) : Calls Tryz.prog 26 #[.string s] w (ParsePost s w) := by
  obtain ⟨i0, hi, hz0, hz1, hz2⟩ := info_parts info_item
  have h25 : ¬ (2500 : Int) < s.size := by omega
  have hp : (0 : Int) < s.size := by omega
  have HI := Lib.hid hi; have HZ0 := Lib.hid hz0; have HZ1 := Lib.hid hz1; have HZ2 := Lib.hid hz2; have HE := Lib.hid he
  clear hi hz0 hz1 hz2 he
  go_enter Tryz.func26, Tryz.ntmps26
  go_wp2_with fail
  go_loopg [4, 5, 6] (s.size + 1) (fun n v fv i wr => ∃ k : Nat, k + n = s.size + 1 ∧ i = .int .i64 k ∧ ∃ v', v' = v ∧ RPInv s w k v' fv wr)
  case atStart => exact ⟨0, by omega, by go_num, _, rfl, [], 0, Nat.le_refl _, by go_num, World.ownsRow_nil _ _ _ _, Below.refl _ _, Nat.le_refl _, by simp, .inl ⟨Nat.zero_le _, by simp [pieces]⟩⟩
  case round =>
    obtain ⟨k, hkn, rfl, v, rfl, out, f, hfk, rfl, hown, hbw, hol, hok, hpc⟩ := hrel
    have HB := Lib.hid hbw; have HOWN := Lib.hid hown; have HOK := Lib.hid hok; clear hbw hown hok
    by_cases hle : k ≤ s.size
    · obtain ⟨n', rfl⟩ : ∃ n', gk = n' + 1 := ⟨gk - 1, by omega⟩
      have hpk : pieces 44 (s.data.toList.take k) = out ++ [(s.data.toList.take k).drop f] := by
        rcases hpc with h | h
        · exact h.2
        · omega
      have ik : (k : Int) ≤ s.size := by omega
      have HPK := Lib.hid hpk; clear hpc hpk
      by_cases hgo : ∃ h : k < s.size, s[k] ≠ 44
      · obtain ⟨hlt, hc⟩ := hgo
        have il : (k : Int) < s.size := by omega
        have hts := take_snoc s k hlt
        have hlen : (s.data.toList.take k).length = k := by rw [List.length_take, size_list]; omega
        have h3 : ((s[k].toNat : Int) != 44) = true := by
          have h' : ((s[k].toNat : Int) == 44) = false := byte_ne _ 44 (by omega) hc
          simp [bne, h']
        have hp2 : pieces 44 (s.data.toList.take (k + 1)) = out ++ [(s.data.toList.take (k + 1)).drop f] := by
          rw [hts, List.drop_append_of_le_length (by omega)]
          exact pieces_more 44 _ hc _ _ _ HPK.out
        have HP := Lib.hid hp2
        clear hp2 hts hlen hc
        go_wp2_with fail
        go_roundg n'
        case measure => omega
        case rel => exact ⟨k + 1, by omega, by go_num, _, rfl, out, f, by omega, rfl, HOWN.out, HB.out, by omega, HOK.out, .inl ⟨by omega, HP.out⟩⟩
      · have hstep : (k + 1 ≤ s.size ∧ pieces 44 (s.data.toList.take (k + 1)) = (out ++ [(s.data.toList.take k).drop f]) ++ [(s.data.toList.take (k + 1)).drop (k + 1)]) ∨ (k + 1 = s.size + 1 ∧ pieces 44 s.data.toList = out ++ [(s.data.toList.take k).drop f]) := by
          by_cases hlt : k < s.size
          · have hc : s[k] = 44 := Classical.byContradiction fun h => hgo ⟨hlt, h⟩
            have hts := take_snoc s k hlt
            have hd : (s.data.toList.take (k + 1)).drop (k + 1) = [] := List.drop_of_length_le (by rw [List.length_take]; omega)
            exact .inl ⟨by omega, by rw [hd, hts, hc, pieces_sep, HPK.out]⟩
          · have hk : k = s.size := by omega
            refine .inr ⟨by omega, ?_⟩
            have := HPK.out
            rw [hk, take_all] at this
            rw [hk, take_all]; exact this
        have hsg := seg_data s f k
        have hx : (s.extract f k).data.toList = (s.data.toList.take k).drop f := by rw [← hsg]
        have cr := fun W hE => rread_any (s.extract f k) W hE (by simp; omega)
        rw [hx] at cr
        unfold ReadPost itemW at cr
        have hbad : (readI ((s.data.toList.take k).drop f)).2 = false → parseR s.data.toList = ([], 6) := by
          intro h
          exact parse_bad (by rw [size_list]; exact hs) (by intro e; rw [← size_list, e] at h0; exact absurd h0 (by decide)) (hstep.imp And.right And.right) h
        have hex : s.extract f k = ⟨((s.data.toList.take k).drop f).toArray⟩ := hsg.symm
        have hdec : ((k : Int) < s.size ∧ ∃ h : k < s.size, ((s[k].toNat : Int) != 44) = false) ∨ ¬ (k : Int) < s.size := by
          by_cases hlt : k < s.size
          · have hc : s[k] = 44 := Classical.byContradiction fun h => hgo ⟨hlt, h⟩
            exact .inl ⟨by omega, hlt, by rw [hc]; rfl⟩
          · exact .inr (by omega)
        have d1 : (f : Int) ≤ k := by omega
        have d2 : (k : Int) ≤ s.size := by omega
        have hsn := itemCells_snoc out ((s.data.toList.take k).drop f)
        have hokn : (readI ((s.data.toList.take k).drop f)).2 = true → ∀ p ∈ out ++ [(s.data.toList.take k).drop f], (readI p).2 = true := by
          intro h p hp
          rcases List.mem_append.1 hp with h' | h'
          · exact HOK.out p h'
          · simp at h'; subst h'; exact h
        generalize hP : (s.data.toList.take k).drop f = P at hstep cr hbad hsn hokn
        clear hP hx hsg hex HPK hgo
        generalize readI P = q at cr hbad hsn hokn
        obtain ⟨⟨a, b, c⟩, ok⟩ := q
        simp only at cr hbad hsn hokn
        have HST := Lib.hid hstep; have CR := Lib.hid cr; have HBAD := Lib.hid hbad; have HSN := Lib.hid hsn; have HOKN := Lib.hid hokn
        have h1c := strs_one ⟨a.toArray⟩ ⟨b.toArray⟩ ⟨c.toArray⟩
        have hb1 : out.length + 1 ≤ maxLen := by unfold maxLen; omega
        have hb2 : (out.length + 1) * 48 ≤ 140737488355328 := by omega
        have H1C := Lib.hid h1c; have HL1 := Lib.hid hb1; have HL2 := Lib.hid hb2
        clear hstep cr hbad hsn hokn h1c hb1 hb2
        cases ok
        · rcases hdec with ⟨il, hlt, h3⟩ | il
          all_goals
            go_wp2_with (go_at_call 59; refine (CR.out _ (HE.out.below HB.out)).mono ?_; rintro e w2 ⟨rfl, hb2⟩; have HB2 := Lib.hid hb2; clear hb2)
            go_ret2
            exact parsePost_mk (HBAD.out trivial) (World.ownsRow_nil _ _ _ _) ((HB.out.trans (HB2.out.mono HB.out.size)).alloc (Nat.le_trans HB.out.size HB2.out.size) _)
        · have hokn := HOKN.out rfl
          have HOKN2 := Lib.hid hokn
          clear hokn
          rcases hdec with ⟨il, hlt, h3⟩ | il
          all_goals
            go_wp2_with (first
              | (go_at_call 59; refine (CR.out _ (HE.out.below HB.out)).mono ?_; rintro e w2 ⟨rfl, hb2⟩; have HB2 := Lib.hid (HB.out.trans (hb2.mono HB.out.size)); have hown2 := ownsRow_below HOWN.out hb2; have HOWN2 := Lib.hid hown2; clear hb2 hown2)
              | (at_builtin; refine wpList_append_own _ rfl _ _ 82 rfl w.heap.size 84 i0 (.agg #[.string ⟨#[]⟩, .string ⟨#[]⟩, .string ⟨#[]⟩]) 3 48 Tryz.underlying82 HI.out HZ0.out HZ1.out HZ2.out rfl (by decide) _ _ _ rfl (ownsRow_below HOWN2.out (((Below.refl _ _).alloc (Nat.le_refl _) _).alloc (by simp) _)) ⟨w2.heap.size + 1, 0, none⟩ 1 1 [.string ⟨a.toArray⟩, .string ⟨b.toArray⟩, .string ⟨c.toArray⟩] rfl rfl (cell_three_at _ _ _ _ _ _ (by simp)) H1C.out HL1.out HL2.out (by have := HB2.out.size; simp; omega) ?_; intro v3 w3 hown3 hgrow hnil3))
            go_roundg n'
            case measure => omega
            case rel =>
              refine ⟨k + 1, by omega, by go_num, _, rfl, out ++ [P], k + 1, Nat.le_refl _, by go_num, ?_, ?_, by simp; omega, HOKN2.out, HST.out⟩
              · rw [HSN.out, List.length_append]; exact hown3
              · exact ((HB2.out.alloc HB2.out.size _).alloc (by have := HB2.out.size; simp; omega) _).grown hgrow (by have := HB2.out.size; simp; omega) (own_block HOWN2.out)
    · obtain rfl : k = s.size + 1 := by omega
      have hpc2 : pieces 44 s.data.toList = out := by
        rcases hpc with h | h
        · omega
        · exact h.2
      have hne : out ≠ [] := by rw [← hpc2]; exact pieces_ne _ _
      have hlen : ∀ p ∈ out, p.length ≤ 2500 := by
        intro p hp
        rw [← hpc2] at hp
        have := pieces_len 44 _ _ hp
        rw [size_list] at this; omega
      have HLEN := Lib.hid hlen
      clear hlen
      have hpr : parseR s.data.toList = expandR (out.map fun p => (itemR p).1) := by
        unfold parseR
        rw [if_neg (by rw [size_list]; omega), if_neg (by intro e; rw [← size_list, e] at h0; exact absurd h0 (by decide)), hpc2, if_pos]
        rw [List.all_eq_true]; intro p hp; rw [(readI_item p).1]; exact HOK.out p hp
      obtain ⟨G, cap, rfl, hG, hGz, hcells⟩ := own_items HOWN.out hne
      have ik : ¬ ((s.size + 1 : Nat) : Int) ≤ s.size := by omega
      have HPR := Lib.hid hpr; have HC := Lib.hid hcells
      clear hpr hcells hpc hpc2 HOWN
      have cd := fun W => rdigits_any 9999 (by omega) (by omega) W
      unfold DigPost at cd
      have CD := Lib.hid cd; clear cd
      obtain ⟨w0, hw0⟩ : ∃ w0 : World, w0 = wr := ⟨_, rfl⟩
      rw [← hw0] at HB HC hGz ⊢
      clear hw0
      go_wp2_with fail
      go_loopg [9] out.length (fun n i wx => ∃ j : Nat, j + n = out.length ∧ i = .int .i64 j ∧ Below w0.heap.size w0 wx ∧ ∀ p ∈ out.take j, ¬ 9999 < cap1 (readI p).1.2.1)
      case atStart => exact ⟨0, by omega, by go_num, Below.refl _ _, by simp⟩
      case round =>
        obtain ⟨j, hjn, rfl, hbx, hsm⟩ := hrel
        have HBX := Lib.hid hbx; have HSM := Lib.hid hsm; clear hbx hsm
        by_cases hlt : j < out.length
        · obtain ⟨n', rfl⟩ : ∃ n', gk = n' + 1 := ⟨gk - 1, by omega⟩
          have ij : (j : Int) < out.length := by omega
          obtain ⟨-, c1, -⟩ := HC.out j hlt
          have hpt := readI_parts (HOK.out out[j] (List.getElem_mem hlt))
          have hlm := less_max hpt.2.1
          have hts := take_snoc' out j hlt
          have hbig : 9999 < cap1 (readI out[j]).1.2.1 → parseR s.data.toList = ([], 7) := by
            intro h
            rw [HPR.out]; unfold expandR
            rw [if_pos]
            rw [List.any_eq_true]
            refine ⟨_, List.mem_map_of_mem (List.getElem_mem hlt), ?_⟩
            rw [(readI_item out[j]).2 (HOK.out out[j] (List.getElem_mem hlt))]
            simpa using h
          have hsm2 : ¬ 9999 < cap1 (readI out[j]).1.2.1 → ∀ p ∈ out.take (j + 1), ¬ 9999 < cap1 (readI p).1.2.1 := by
            intro h p hp
            rw [hts] at hp
            rcases List.mem_append.1 hp with h' | h'
            · exact HSM.out p h'
            · simp at h'; subst h'; exact h
          generalize (readI out[j]).1.2.1 = m at c1 hlm hbig hsm2
          have cl := fun W => rless_any ⟨(Lib.itoa 9999).toArray⟩ ⟨m.toArray⟩ W
          rw [show (⟨(Lib.itoa 9999).toArray⟩ : ByteArray).data.toList = Lib.itoa 9999 by simp, show (⟨m.toArray⟩ : ByteArray).data.toList = m by simp, hlm] at cl
          have HBIG := Lib.hid hbig; have HSM2 := Lib.hid hsm2
          have kc := fun W (hb : Below w0.heap.size w0 W) => (hb.cell (p := ⟨G, j * 3 + 1, none⟩) hGz).trans c1
          have KC := Lib.hid kc
          clear hpt hlm hts hbig hsm2 c1 kc
          have k0 := KC.out wr HBX.out
          by_cases hbg : 9999 < cap1 m
          · have hbig := HBIG.out hbg
            rw [decide_eq_true hbg] at cl
            have HBIG2 := Lib.hid hbig; have CL := Lib.hid cl; clear hbig cl hbg
            go_upto_region 17 with fail
            have s0 : wr.drew.cell? ⟨G, j * 3 + 1, none⟩ = some (.string ⟨m.toArray⟩) := k0
            go_region_held3 (fun W => W.cell? ⟨G, j * 3 + 1, none⟩ = some (.string ⟨m.toArray⟩)) (first | exact s0 | exact keep1 (by assumption) (by assumption)) (first
              | (go_at_call 22; refine (CD.out _).mono ?_; rintro e w1 ⟨rfl, hb1⟩)
              | (go_at_call 60; refine (CL.out _).mono ?_; rintro e w2 ⟨rfl, rfl⟩))
            all_goals
              go_wp2_with fail
              go_ret2
              exact parsePost_mk HBIG2.out (World.ownsRow_nil _ _ _ _) (HB.out.trans (((HBX.out.drew).trans (Below.mono (by assumption) HBX.out.size)).mono HB.out.size))
          · have hsm2 := HSM2.out hbg
            rw [decide_eq_false hbg] at cl
            have HSM3 := Lib.hid hsm2; have CL := Lib.hid cl; clear hsm2 cl hbg
            go_upto_region 17 with fail
            have s0 : wr.drew.cell? ⟨G, j * 3 + 1, none⟩ = some (.string ⟨m.toArray⟩) := k0
            go_region_held3 (fun W => W.cell? ⟨G, j * 3 + 1, none⟩ = some (.string ⟨m.toArray⟩)) (first | exact s0 | exact keep1 (by assumption) (by assumption)) (first
              | (go_at_call 22; refine (CD.out _).mono ?_; rintro e w1 ⟨rfl, hb1⟩)
              | (go_at_call 60; refine (CL.out _).mono ?_; rintro e w2 ⟨rfl, rfl⟩))
            all_goals
              go_wp2_with fail
              go_roundg n'
              case measure => omega
              case rel => exact ⟨j + 1, by omega, by go_num, (HBX.out.drew).trans (Below.mono (by assumption) HBX.out.size), HSM3.out⟩
        · obtain rfl : j = out.length := by omega
          rw [List.take_length] at HSM
          have ij : ¬ ((out.length : Nat) : Int) < out.length := by omega
          have HBX2 := HBX
          clear HBX
          obtain ⟨wq, hwq⟩ : ∃ wq : World, wq = wr := ⟨_, rfl⟩
          rw [← hwq] at HBX2 ⊢
          clear hwq
          obtain ⟨j0, hji, hjz0, hjz1, hjz2⟩ := info_parts info_int
          have JI := Lib.hid hji; have JZ0 := Lib.hid hjz0; have JZ1 := Lib.hid hjz1; have JZ2 := Lib.hid hjz2
          clear hji hjz0 hjz1 hjz2 CD
          have hgood : ∀ r ∈ out.map (fun p => (itemR p).1), r.Good := by
            intro r hr
            obtain ⟨p, hp, rfl⟩ := List.mem_map.1 hr
            exact (item_ints (HOK.out p hp) (HSM.out p hp)).2.2.2.1
          have hsmall : ¬ (out.map fun p => (itemR p).1).any (fun r => decide (9999 < r.last)) = true := by
            rw [List.any_eq_true]
            rintro ⟨r, hr, h9⟩
            obtain ⟨p, hp, rfl⟩ := List.mem_map.1 hr
            have := (item_ints (HOK.out p hp) (HSM.out p hp)).2.2.2.2.1
            simp at h9; omega
          have hend1 : 500 < sizes (out.map fun p => (itemR p).1) → parseR s.data.toList = ([], 3) := fun h5 => by
            rw [HPR.out]; unfold expandR; rw [if_neg hsmall, if_pos h5]
          have hend2 : sizes (out.map fun p => (itemR p).1) ≤ 500 → parseR s.data.toList = ((out.map fun p => (itemR p).1).flatMap Run.nums, 0) := fun h5 => by
            rw [HPR.out]; unfold expandR; rw [if_neg hsmall, if_neg (by omega)]
          have HGOOD := Lib.hid hgood; have HE1 := Lib.hid hend1; have HE2 := Lib.hid hend2
          clear hgood hsmall hend1 hend2
          obtain ⟨wb, hwb⟩ : ∃ wb : World, wb = wq := ⟨_, rfl⟩
          have HBB : Hid (Below w.heap.size w wb) := by rw [hwb]; exact Lib.hid (HB.out.trans (HBX2.out.mono HB.out.size))
          have hcb : ∀ k (hk : k < out.length), wb.cell? ⟨G, k * 3, none⟩ = some (.string ⟨(readI out[k]).1.1.toArray⟩) ∧ wb.cell? ⟨G, k * 3 + 1, none⟩ = some (.string ⟨(readI out[k]).1.2.1.toArray⟩) ∧ wb.cell? ⟨G, k * 3 + 2, none⟩ = some (.string ⟨(readI out[k]).1.2.2.toArray⟩) := by
            intro k hk
            obtain ⟨a1, a2, a3⟩ := HC.out k hk
            rw [hwb]
            exact ⟨(HBX2.out.cell (p := ⟨G, k * 3, none⟩) hGz).trans a1, (HBX2.out.cell (p := ⟨G, k * 3 + 1, none⟩) hGz).trans a2, (HBX2.out.cell (p := ⟨G, k * 3 + 2, none⟩) hGz).trans a3⟩
          have hGb : G < wb.heap.size := by rw [hwb]; exact Nat.lt_of_lt_of_le hGz HBX2.out.size
          have HCB := Lib.hid hcb
          clear hcb HC HB HBX2 HPR
          rw [← hwb]
          clear hwb
          go_wp2_with fail
          go_loopg [10, 11] out.length (fun n v i wx => ∃ j : Nat, j + n = out.length ∧ i = .int .i64 j ∧ sizes ((out.map fun p => (itemR p).1).take j) ≤ 500 ∧ OutAt wb v (((out.map fun p => (itemR p).1).take j).flatMap Run.nums) wx)
          case atStart => exact ⟨0, by omega, by go_num, by simp [sizes], World.ownsRow_nil _ _ _ _, Below.refl _ _⟩
          case round =>
            obtain ⟨j, hjn, rfl, hsz, hO⟩ := hrel
            have HO := Lib.hid hO; clear hO
            by_cases hlt : j < out.length
            · obtain ⟨n', rfl⟩ : ∃ n', gk = n' + 1 := ⟨gk - 1, by omega⟩
              have ij : (j : Int) < out.length := by omega
              have hmem : out[j] ∈ out := List.getElem_mem hlt
              obtain ⟨q1, q2, q3, q4, q5, q6⟩ := item_ints (HOK.out _ hmem) (by have := HSM.out _ hmem; omega)
              obtain ⟨c1, c2, c3⟩ := HCB.out j hlt
              have hjl : j < (out.map fun p => (itemR p).1).length := by rw [List.length_map]; exact hlt
              have hts : (out.map fun p => (itemR p).1).take (j + 1) = (out.map fun p => (itemR p).1).take j ++ [(itemR out[j]).1] := by
                rw [take_snoc' _ j hjl, List.getElem_map]
              have hpart := sizes_part HGOOD.out (j + 1)
              have hfl := flat_length (rs := (out.map fun p => (itemR p).1).take j) (fun r hr => HGOOD.out r (List.mem_of_mem_take hr))
              rw [hts, sizes_snoc] at hpart
              have hnx : ((out.map fun p => (itemR p).1).take (j + 1)).flatMap Run.nums = ((out.map fun p => (itemR p).1).take j).flatMap Run.nums ++ rowsR (itemR out[j]).1.first ((itemR out[j]).1.last - (itemR out[j]).1.first + 1).toNat (itemR out[j]).1.times.toNat := by
                rw [hts, List.flatMap_append, ← run_rows q4 q6]; simp
              have hsn : sizes ((out.map fun p => (itemR p).1).take (j + 1)) = sizes ((out.map fun p => (itemR p).1).take j) + (itemR out[j]).1.size := by rw [hts, sizes_snoc]
              clear hts
              have hbd := Run.size_bd q4
              have hS0 := sizes_bd (rs := (out.map fun p => (itemR p).1).take j) (fun r hr => HGOOD.out r (List.mem_of_mem_take hr))
              have hrows := rows_le q4
              obtain ⟨z1, z2, z3⟩ := readI_len out[j]
              have z0 := HLEN.out _ hmem
              have hsd : wrap64 ((itemR out[j]).1.times * ((itemR out[j]).1.last - (itemR out[j]).1.first + 1)) = (itemR out[j]).1.size := by
                rw [Int.mul_comm]; exact IntWalk.wrap64_in _ (by change _ ≤ (itemR out[j]).1.size ∧ (itemR out[j]).1.size ≤ _; omega)
              have htl : (itemR out[j]).1.times ≤ (itemR out[j]).1.size := by
                have g1 := q4.fl; have g2 := q4.t1
                have := Int.mul_le_mul_of_nonneg_right (show 1 ≤ (itemR out[j]).1.last - (itemR out[j]).1.first + 1 by omega) (show 0 ≤ (itemR out[j]).1.times by omega)
                rw [Int.one_mul] at this; exact this
              generalize (readI out[j]).1.1 = ta at q1 c1 z1
              generalize (readI out[j]).1.2.1 = tb at q2 c2 z2
              generalize (readI out[j]).1.2.2 = tc at q3 c3 z3
              generalize (itemR out[j]).1 = r at *
              generalize ((out.map fun p => (itemR p).1).take j).flatMap Run.nums = L at *
              generalize sizes ((out.map fun p => (itemR p).1).take j) = S at *
              obtain ⟨f0, fl, l1, t1, t2⟩ := q4
              have ci1 := fun W => rint_any ⟨ta.toArray⟩ 0 9999 W (by rw [ba_size]; unfold maxLen; omega)
              have ci2 := fun W => rint_any ⟨tb.toArray⟩ 0 9999 W (by rw [ba_size]; unfold maxLen; omega)
              have ci3 := fun W => rint_any ⟨tc.toArray⟩ 1 500 W (by rw [ba_size]; unfold maxLen; omega)
              unfold IntPost at ci1 ci2 ci3
              rw [show (⟨ta.toArray⟩ : ByteArray).data.toList = ta by simp, q1] at ci1
              rw [show (⟨tb.toArray⟩ : ByteArray).data.toList = tb by simp, q2] at ci2
              rw [show (⟨tc.toArray⟩ : ByteArray).data.toList = tc by simp] at ci3
              have CI1 := Lib.hid ci1; have CI2 := Lib.hid ci2
              have hbad : 500 < S + r.size → parseR s.data.toList = ([], 3) := fun h => HE1.out (by omega)
              have HBAD := Lib.hid hbad; have HNX := Lib.hid hnx; have HSN := Lib.hid hsn; have HROWS := Lib.hid hrows
              clear q1 q2 ci1 ci2 z0 z1 z2 z3 hbad hnx hsn hrows hpart
              have k1 := fun W (hb : Below wb.heap.size wb W) => (hb.cell (p := ⟨G, j * 3, none⟩) hGb).trans c1
              have k2 := fun W (hb : Below wb.heap.size wb W) => (hb.cell (p := ⟨G, j * 3 + 1, none⟩) hGb).trans c2
              have k3 := fun W (hb : Below wb.heap.size wb W) => (hb.cell (p := ⟨G, j * 3 + 2, none⟩) hGb).trans c3
              have KK1 := Lib.hid k1; have KK2 := Lib.hid k2; have KK3 := Lib.hid k3
              clear c1 c2 c3 k1 k2 k3
              have hk1 := KK1.out _ HO.out.2
              obtain ⟨pv, cv, rfl⟩ := own_slice HO.out.1
              have hL5 : (L.length : Int) ≤ 500 := by omega
              rcases q3 with ⟨q3a, q3b⟩ | ⟨q3a, q3b⟩
              · rw [q3b] at ci3
                have CI3 := Lib.hid ci3
                have HSD := Lib.hid hsd
                have hd := hsd
                clear ci3 q3b hsd
                by_cases hbig : 500 < S + r.size
                · have hb2 := HBAD.out hbig
                  have HB2 := Lib.hid hb2
                  have tst : (500 : Int) - L.length < r.size := by omega
                  clear hb2
                  go_wp2_with (first
                    | (go_at_call 20; refine (CI1.out _).mono ?_; rintro e w1 ⟨rfl, hb1⟩; have HO1 := Lib.hid (HO.out.later hb1); have hk2 := KK2.out _ HO1.out.2; clear hb1 CI1 hk1)
                    | (go_at_call 20; refine (CI2.out _).mono ?_; rintro e w2 ⟨rfl, hb2⟩; have HO2 := Lib.hid (HO1.out.later hb2); have hk3 := KK3.out _ HO2.out.2; clear hb2 CI2 hk2)
                    | (go_at_call 20; refine (CI3.out _).mono ?_; rintro e w3 ⟨rfl, hb3⟩; have HO3 := Lib.hid (HO2.out.later hb3); clear hb3 CI3 hk3))
                  go_ret2
                  exact parsePost_mk HB2.out (World.ownsRow_nil _ _ _ _) (HBB.out.trans (HO3.out.2.mono HBB.out.size))
                · have tst : ¬ (500 : Int) - L.length < r.size := by omega
                  have hrl := HROWS.out (by omega)
                  have HRL := Lib.hid hrl
                  clear hrl
                  go_wp2_with (first
                    | (go_at_call 20; refine (CI1.out _).mono ?_; rintro e w1 ⟨rfl, hb1⟩; have HO1 := Lib.hid (HO.out.later hb1); have hk2 := KK2.out _ HO1.out.2; clear hb1 CI1 hk1)
                    | (go_at_call 20; refine (CI2.out _).mono ?_; rintro e w2 ⟨rfl, hb2⟩; have HO2 := Lib.hid (HO1.out.later hb2); have hk3 := KK3.out _ HO2.out.2; clear hb2 CI2 hk2)
                    | (go_at_call 20; refine (CI3.out _).mono ?_; rintro e w3 ⟨rfl, hb3⟩; have HO3 := Lib.hid (HO2.out.later hb3); clear hb3 CI3 hk3))
                  obtain ⟨C, hC⟩ : ∃ C : Nat, C = (r.last - r.first + 1).toNat := ⟨_, rfl⟩
                  rw [← hC] at HRL HNX
                  have hCi : (C : Int) = r.last - r.first + 1 := by omega
                  clear hC hd
                  go_loopg [10, 18] r.times.toNat (fun n v i wy => ∃ t : Nat, t + n = r.times.toNat ∧ i = .int .i64 t ∧ OutAt wb v (L ++ rowsR r.first C t) wy)
                  case atStart => exact ⟨0, by omega, by go_num, by simpa [rowsR] using HO3.out⟩
                  case round =>
                    clear HO HO1 HO2 HO3
                    obtain ⟨t, htn, rfl, hO⟩ := hrel
                    have HO := Lib.hid hO; clear hO
                    by_cases htl : t < r.times.toNat
                    · obtain ⟨n2, rfl⟩ : ∃ n2, gk = n2 + 1 := ⟨gk - 1, by omega⟩
                      have it : (t : Int) < r.times := by omega
                      have hrs := rowsR_succ r.first C t
                      have HRS := Lib.hid hrs
                      have hrl := HRL.out t
                      have HRL2 := Lib.hid hrl
                      clear hrs hrl
                      generalize rowsR r.first C t = X at HO HRS HRL2
                      go_wp2_with fail
                      go_loopg [10, 19] C (fun n v i wz => ∃ c : Nat, c + n = C ∧ i = .int .i64 (r.first + (c : Int)) ∧ OutAt wb v (L ++ X ++ upR r.first c) wz)
                      case atStart => exact ⟨0, by omega, by simp, by simpa [upR] using HO.out⟩
                      case round =>
                        clear HO
                        obtain ⟨c, hcn, rfl, hO⟩ := hrel
                        have HO := Lib.hid hO; clear hO
                        by_cases hcl : c < C
                        · obtain ⟨n3, rfl⟩ : ∃ n3, gk = n3 + 1 := ⟨gk - 1, by omega⟩
                          have ic : r.first + (c : Int) ≤ r.last := by omega
                          have ic0 : 0 ≤ r.first + (c : Int) := by omega
                          have hus := upR_succ r.first c
                          have hrl := HRL2.out c (by omega) (by omega)
                          have hlb : (L ++ X ++ upR r.first c).length ≤ 2000 := by
                            rw [List.length_append, List.length_append]; omega
                          have HUS := Lib.hid hus
                          clear hus hrl
                          generalize upR r.first c = U at HO HUS hlb
                          have h1c := int_one (r.first + (c : Int))
                          have e0 : r.first + ((c + 1 : Nat) : Int) = r.first + (c : Int) + 1 := by omega
                          have E0 := Lib.hid e0
                          clear e0
                          generalize r.first + (c : Int) = y at *
                          obtain ⟨Y, hY⟩ : ∃ Y, Y = L ++ X ++ U := ⟨_, rfl⟩
                          rw [← hY] at HO hlb
                          have HY := Lib.hid hY; have H1C := Lib.hid h1c
                          have hb1 : Y.length + 1 ≤ maxLen := by unfold maxLen; omega
                          have hb2 : (Y.length + 1) * 8 ≤ 140737488355328 := by omega
                          have HB1 := Lib.hid hb1; have HB2 := Lib.hid hb2
                          clear hY h1c hlb hb1 hb2
                          obtain ⟨wz, hwz⟩ : ∃ wz : World, wz = wr := ⟨_, rfl⟩
                          rw [← hwz] at HO ⊢
                          clear hwz
                          go_wp2_with (at_builtin; refine wpList_append_own _ rfl _ _ 31 rfl wb.heap.size 3 j0 (.int .i64 0) 1 8 Tryz.underlying31 JI.out JZ0.out JZ1.out JZ2.out rfl (by decide) _ _ _ rfl (HO.out.later ((Below.refl _ _).alloc (Nat.le_refl _) _)).1 ⟨wz.heap.size, 0, none⟩ 1 1 [.int .i64 y] rfl rfl (cell_one_at _ _ _ _ rfl) H1C.out HB1.out HB2.out (by have := HO.out.2.size; simp; omega) ?_; intro v3 w3 hown3 hgrow3 hnil3)
                          go_roundg n3
                          case measure => omega
                          case rel =>
                            refine ⟨c + 1, by omega, by rw [E0.out], ?_, ?_⟩
                            · rw [HUS.out, ← List.append_assoc, ← HY.out, intCells_snoc, List.length_append]
                              exact hown3
                            · exact (HO.out.2.alloc HO.out.2.size _).grown hgrow3 (by have := HO.out.2.size; simp; omega) (own_block HO.out.1)
                        · obtain rfl : c = C := by omega
                          have ic : ¬ r.first + (c : Int) ≤ r.last := by omega
                          go_wp2_with fail
                          go_roundg n2
                          case measure => omega
                          case rel => exact ⟨t + 1, by omega, by go_num, by rw [HRS.out, ← List.append_assoc]; exact HO.out⟩
                    · obtain rfl : t = r.times.toNat := by omega
                      have it : ¬ ((r.times.toNat : Nat) : Int) < r.times := by omega
                      go_wp2_with fail
                      go_roundg n'
                      case measure => omega
                      case rel => exact ⟨j + 1, by omega, by go_num, by rw [HSN.out]; omega, by rw [HNX.out]; exact HO.out⟩
              · rw [q3b] at ci3
                have CI3 := Lib.hid ci3
                have hb2 := HBAD.out (by omega)
                have HB2 := Lib.hid hb2
                clear ci3 q3b hsd hb2
                go_wp2_with (first
                  | (go_at_call 20; refine (CI1.out _).mono ?_; rintro e w1 ⟨rfl, hb1⟩; have HO1 := Lib.hid (HO.out.later hb1); have hk2 := KK2.out _ HO1.out.2; clear hb1 CI1 hk1)
                  | (go_at_call 20; refine (CI2.out _).mono ?_; rintro e w2 ⟨rfl, hb2⟩; have HO2 := Lib.hid (HO1.out.later hb2); have hk3 := KK3.out _ HO2.out.2; clear hb2 CI2 hk2)
                  | (go_at_call 20; refine (CI3.out _).mono ?_; rintro e w3 ⟨rfl, hb3⟩; have HO3 := Lib.hid (HO2.out.later hb3); clear hb3 CI3 hk3))
                go_ret2
                exact parsePost_mk HB2.out (World.ownsRow_nil _ _ _ _) (HBB.out.trans (HO3.out.2.mono HBB.out.size))
            · obtain rfl : j = out.length := by omega
              have htk : (out.map fun p => (itemR p).1).take out.length = out.map fun p => (itemR p).1 := List.take_of_length_le (by rw [List.length_map]; exact Nat.le_refl _)
              rw [htk] at hsz HO
              have hfin := HE2.out hsz
              have HF := Lib.hid hfin
              have ij : ¬ ((out.length : Nat) : Int) < out.length := by omega
              clear hfin htk
              go_wp2_with fail
              go_ret2
              exact parsePost_mk HF.out (ownsRow_mono HO.out.1 HBB.out.size) (HBB.out.trans (HO.out.2.mono HBB.out.size))
end Go.Proofs.YtgldpdbdgjehkaaGreatDoor
