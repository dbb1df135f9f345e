/- spans: join. -/
import Derived.Test.YtnhbilcpdombfaaSpArr
namespace Go.Proofs.Ytnhbilcpdombfaa
open Go.RowKit

/-- Spans of natural numbers, as they lie in memory. -/
def up (s : List (Nat × Nat)) : List (Int × Int) := s.map fun x => ((x.1 : Int), (x.2 : Int))
/-- A list of slices. -/
structure LsAt (W : World) (p : Option Addr) (Ls : List (Option Addr × Nat × List (Nat × Nat))) : Prop where
  at_ : 0 < Ls.length → ∃ g off, p = some ⟨g, off, none⟩ ∧ g < W.heap.size ∧ ∀ j (h : j < Ls.length), W.cell? ⟨g, off + j, none⟩ = some (.slice (Ls[j]'h).1 (Ls[j]'h).2.2.length (Ls[j]'h).2.1)
  each : ∀ x ∈ Ls, SpsAt W x.1 (up x.2.2)
/-- The spans of the first j lists. -/
def flatL (Ls : List (Option Addr × Nat × List (Nat × Nat))) (j : Nat) : List (Nat × Nat) := (Ls.take j).flatMap fun x => x.2.2
theorem flatL_succ (Ls : List (Option Addr × Nat × List (Nat × Nat))) (j : Nat) (h : j < Ls.length) : flatL Ls (j + 1) = flatL Ls j ++ (Ls[j]'h).2.2 := by
  unfold flatL; rw [List.take_add_one, List.getElem?_eq_getElem h, List.flatMap_append]; simp
/-- The array of the steps, in its block, and what is below it. -/
structure JInv (w W : World) (f : Nat → Int) : Prop where
  below : Below w.heap.size w W
  row : W.heap[w.heap.size]? = some (.cells (arrC f 1025) 85 (0, 0))
theorem JInv.call {w W W' : World} {f : Nat → Int} (h : JInv w W f) (hb : Below W.heap.size W W') : JInv w W' f :=
  ⟨h.below.trans (hb.mono h.below.size), (hb.block _ (Array.getElem?_eq_some_iff.1 h.row).1).trans h.row⟩
theorem JInv.set {w W : World} {f : Nat → Int} (h : JInv w W f) (k : Nat) (v : Int) : JInv w (W.setCell ⟨w.heap.size, k, none⟩ (.int .i64 v)) (updF f k v) :=
  ⟨Below.setCell (p := ⟨w.heap.size, k, none⟩) h.below (Nat.le_refl _) _, by rw [heap_set _ h.row, arrC_set]⟩
theorem JInv.at_ {w W : World} {f : Nat → Int} (h : JInv w W f) {k : Nat} (hk : k < 1025) : W.cell? ⟨w.heap.size, k, none⟩ = some (.int .i64 (f k)) ∧ W.frozen? ⟨w.heap.size, k, none⟩ = false := ⟨row_cell h.row (arrC_get f hk), row_free h.row⟩
theorem stp_two (L : List (Nat × Nat)) (x : Nat × Nat) (h : 1 ≤ x.2) : updF (updF (stp L) x.1 (stp L x.1 + 1)) (x.1 + x.2) (stp L (x.1 + x.2) - 1) = stp (L ++ [x]) := by
  funext p
  rw [stp_append]
  unfold updF
  simp only [stp]
  by_cases h1 : p = x.1 + x.2
  · rw [if_pos h1, if_neg (by omega), if_pos h1.symm, h1]; omega
  · rw [if_neg h1]
    by_cases h2 : p = x.1
    · rw [if_pos h2, if_pos h2.symm, if_neg (by omega), h2]; omega
    · rw [if_neg h2, if_neg (by omega), if_neg (by omega)]; omega
theorem up_get {s : List (Nat × Nat)} {j : Nat} (h : j < (up s).length) : (up s)[j]'h = (((s[j]'(by simpa [up] using h)).1 : Int), ((s[j]'(by simpa [up] using h)).2 : Int)) := by simp [up]
theorem up_len (s : List (Nat × Nat)) : (up s).length = s.length := by simp [up]
/-- All of these spans are valid. -/
def Okay (L : List (Nat × Nat)) : Prop := ∀ x ∈ L, 1 ≤ x.2 ∧ x.1 + x.2 ≤ 1024
theorem end_nat (a b e : Nat) (he : e = a + b) (h : e ≤ 1024) (w : World) : Calls Try.prog 52 #[.agg #[.int .i64 (a : Int), .int .i64 (b : Int)]] w fun r w' => r = .returned (.int .i64 (e : Int)) ∧ Below w.heap.size w w' := by
  have := end_any (a : Int) (b : Int) w (by omega)
  rw [show (a : Int) + (b : Int) = ((e : Nat) : Int) by omega] at this
  exact this
def SpC (s : List (Nat × Nat)) : List Value := s.flatMap fun x => [.int .i64 (x.1 : Int), .int .i64 (x.2 : Int)]
def SpsPost (s : List (Nat × Nat)) (w : World) (e : Ending) (w' : World) : Prop := ∃ v, e = .returned v ∧ Below w.heap.size w w' ∧ w'.ownsRow w.heap.size 31 2 v s.length (SpC s)
theorem info_span : (Try.prog.info? 31).map (fun i => (i.zero, i.size, i.bytes)) = some (some (.agg #[.int .i64 0, .int .i64 0]), 2, 16) := by kernel_rfl
theorem cellB_two (w : World) (a b : Value) (t : TypeId) (n : Nat) (hn : n = w.heap.size) : ∀ j u, [a, b][j]? = some u → (w.alloc (.cells #[a, b] t)).cell? ((⟨n, 0, none⟩ : Addr).add j) = some u := by
  subst hn
  intro j u hu
  rw [WideShapes.add_plain]
  have h := heap_alloc_new w (.cells #[a, b] t)
  match j, hu with
  | 0, hu => exact row_cell h (by simpa using hu)
  | 1, hu => exact row_cell h (by simpa using hu)
theorem two_onecell (a b : Int) : ∀ u ∈ [Value.int .i64 a, Value.int .i64 b], u.oneCell' = true := by
  intro u hu
  rcases List.mem_cons.1 hu with rfl | hu
  · rfl
  · obtain rfl := List.mem_singleton.1 hu
    rfl
theorem ownB_block {w : World} {base : Nat} {e : TypeId} {size : Nat} {v : Value} {n : Nat} {xs : List Value} (h : w.ownsRow base e size v n xs) : ∀ k, v.ownBlock = some k → base ≤ k := fun k e => (h.lt k e).1
theorem ownsRow_base {w : World} {b b' : Nat} {e : TypeId} {size : Nat} {v : Value} {n : Nat} {xs : List Value} (h : w.ownsRow b e size v n xs) (hb : b' ≤ b) : w.ownsRow b' e size v n xs := by
  obtain ⟨h1, h2⟩ := h
  refine ⟨h1, ?_⟩
  rcases h2 with h2 | ⟨g, cap, cur, hv, hg, r⟩
  · exact .inl h2
  · exact .inr ⟨g, cap, cur, hv, Nat.le_trans hb hg, r⟩
theorem SpC_snoc (s : List (Nat × Nat)) (a b : Nat) : SpC (s ++ [(a, b)]) = SpC s ++ [.int .i64 (a : Int), .int .i64 (b : Int)] := by simp [SpC]
/-- What the rounds over the steps keep. -/
structure KInv (w W : World) (P : Nat → Bool) (k : Nat) (v fr : Value) : Prop where
  below : Below w.heap.size w W
  lt : w.heap.size < W.heap.size
  row : W.ownsRow (w.heap.size + 1) 31 2 v (stF P k).1.length (SpC (stF P k).1)
  open_ : ∀ a, (stF P k).2 = some a → fr = .int .i64 (a : Int)
theorem cov_end {L : List (Nat × Nat)} (h : Okay L) : cov L 1024 = 0 := by
  cases hc : inS L 1024 with
  | false =>
    apply Classical.byContradiction
    intro hn
    have := (cov_pos L 1024).1 (by omega)
    rw [hc] at this; cases this
  | true =>
    obtain ⟨x, hx, h1, h2⟩ := (inS_iff _ _).1 hc
    have := (h x hx).2
    omega
theorem stF_some (P : Nat → Bool) {k a : Nat} (h : (stF P k).2 = some a) : a < k := ((stOk P k).open_ a h).1
theorem stF_len (P : Nat → Bool) (k : Nat) : 2 * (stF P k).1.length ≤ k := (stOk P k).len.1
theorem was_dep {L : List (Nat × Nat)} {least : Nat} (h1 : 1 ≤ least) (k : Nat) : (stF (fun p => decide (least ≤ cov L p)) k).2.isSome = decide ((least : Int) ≤ dep L k) := by
  rw [stF_was]
  cases k with
  | zero =>
    have : decide ((least : Int) ≤ dep L 0) = false := by simp [dep]; omega
    rw [this]; rfl
  | succ k =>
    rw [dep_cov]
    have h2 : decide (0 < k + 1) = true := by simp
    rw [h2, Bool.true_and, Nat.add_sub_cancel]
    apply decide_eq_decide.2; omega
theorem dep_pos (L : List (Nat × Nat)) (k : Nat) : 0 ≤ dep L k ∧ dep L k ≤ L.length := by
  cases k with
  | zero => simp [dep]
  | succ k => rw [dep_cov]; have := cov_le L k; omega
set_option maxHeartbeats 4000000 in
set_option maxRecDepth 100000 in
theorem join_any (least : Nat) (Ls : List (Option Addr × Nat × List (Nat × Nat))) (p : Option Addr) (cap : Nat) (w : World) (h : LsAt w p Ls) (hn : Ls.length ≤ 2) (hok : ∀ x ∈ Ls, Okay x.2.2 ∧ x.2.2.length ≤ 2100) (h1 : 1 ≤ least) (h2 : least ≤ 2) :
    Calls Try.prog 48 #[.int .i64 (least : Int), .slice p Ls.length cap] w (SpsPost (setF (fun p => decide (least ≤ cov (flatL Ls Ls.length) p)) 1024) w) := by
  obtain ⟨r, hr⟩ : ∃ r, r = setF (fun p => decide (least ≤ cov (flatL Ls Ls.length) p)) 1024 := ⟨_, rfl⟩
  rw [← hr]
  have HRR := Lib.hid hr
  have HW := Lib.hid h; have HOK := Lib.hid hok
  have n2 : (Ls.length : Int) ≤ 2 := by omega
  have HJ := Lib.hid (show JInv w (w.alloc (.cells Try.zeroCells85 85)) (stp []) from ⟨(Below.refl _ _).alloc (Nat.le_refl _) _, by rw [arrC_zero]; exact heap_alloc_new _ _⟩)
  have hflen : ∀ j, j ≤ Ls.length → (flatL Ls j).length ≤ 2100 * j := by
    intro j
    induction j with
    | zero => intro _; simp [flatL]
    | succ j ih =>
      intro hj
      rw [flatL_succ Ls j (by omega), List.length_append]
      have := ih (by omega)
      have := (hok _ (List.getElem_mem (show j < Ls.length by omega))).2
      omega
  have HFL := Lib.hid hflen
  clear h hok hflen hr
  go_enter Try.func48, Try.ntmps48
  go_wp2_with fail
  go_loopg [19] Ls.length (fun n1 i wr => ∃ j : Nat, j + n1 = Ls.length ∧ i = .int .i64 j ∧ JInv w wr (stp (flatL Ls j)))
  case atStart => exact ⟨0, by omega, by go_num, HJ.out⟩
  case round =>
    clear HJ
    obtain ⟨j, hjn, rfl, hinv⟩ := hrel
    have HI := Lib.hid hinv
    clear hinv
    have j0 : (0 : Int) ≤ j := by omega
    by_cases hlt : j < Ls.length
    · obtain ⟨n', rfl⟩ : ∃ n', gk = n' + 1 := ⟨gk - 1, by omega⟩
      obtain ⟨g, off, rfl, hg, hc⟩ := HW.out.at_ (by omega)
      have c0 := (HI.out.below.cell (p := ⟨g, off + j, none⟩) hg).trans (hc j hlt)
      have hs := HW.out.each _ (List.getElem_mem hlt)
      obtain ⟨hko, hkl⟩ := HOK.out _ (List.getElem_mem hlt)
      have hfs := flatL_succ Ls j hlt
      have hfl := HFL.out j (by omega)
      generalize (Ls[j]'hlt).2.2 = l at c0 hs hko hkl hfs
      generalize (Ls[j]'hlt).1 = q at c0 hs
      generalize (Ls[j]'hlt).2.1 = cl at c0
      generalize flatL Ls j = L0 at HI hfs hfl
      have HS := Lib.hid hs; have HKO := Lib.hid hko; have HFS := Lib.hid hfs
      have i1 : (j : Int) < Ls.length := by omega
      have l4 : (l.length : Int) ≤ 2100 := by omega
      clear hc hs hko hfs
      go_wp2_with fail
      go_loopg [25] l.length (fun n1 i wr => ∃ k : Nat, k + n1 = l.length ∧ i = .int .i64 k ∧ JInv w wr (stp (L0 ++ l.take k)))
      case atStart => exact ⟨0, by omega, by go_num, by simpa using HI.out⟩
      case round =>
        clear HI c0
        obtain ⟨k, hkn, rfl, hinv⟩ := hrel
        have HI := Lib.hid hinv
        clear hinv
        have k0 : (0 : Int) ≤ k := by omega
        by_cases hlt2 : k < l.length
        · obtain ⟨n2', rfl⟩ : ∃ n2', gk = n2' + 1 := ⟨gk - 1, by omega⟩
          obtain ⟨g2, off2, rfl, hg2, hc2⟩ := (HS.out.below HI.out.below).at_ (by rw [up_len]; omega)
          obtain ⟨d0, d1⟩ := hc2 k (by rw [up_len]; exact hlt2)
          rw [up_get] at d0 d1
          obtain ⟨v1, v2⟩ := HKO.out _ (List.getElem_mem hlt2)
          have htk : l.take (k + 1) = l.take k ++ [l[k]'hlt2] := by rw [List.take_add_one, List.getElem?_eq_getElem hlt2]; rfl
          have hbd := stp_bound (L0 ++ l.take k)
          have hll : (L0 ++ l.take k).length ≤ 10000 := by rw [List.length_append, List.length_take]; omega
          obtain ⟨x, hx⟩ : ∃ x, x = l[k]'hlt2 := ⟨_, rfl⟩
          rw [← hx] at d0 d1 v1 v2 htk
          have hts := stp_two (L0 ++ l.take k) x v1
          rw [List.append_assoc, ← htk] at hts
          obtain ⟨a, b⟩ := x
          simp only at d0 d1 v1 v2 hts
          generalize stp (L0 ++ l.take k) = f at HI hbd hts
          obtain ⟨e, he⟩ : ∃ e, e = a + b := ⟨_, rfl⟩
          rw [← he] at hts v2
          have HTS := Lib.hid hts
          have CE := Lib.hid (fun W => end_nat a b e he v2 W)
          have b1 := hbd a; have b2 := hbd e
          have w1 : IntKind.i64.wrap (f a + 1) = f a + 1 := IntWalk.i64_in _ (by omega)
          have w2 : IntKind.i64.wrap (f e - 1) = f e - 1 := IntWalk.i64_in _ (by omega)
          have i2 : (k : Int) < l.length := by omega
          have a0 : (0 : Int) ≤ a := by omega
          have a1 : (a : Int) < 1025 := by omega
          have a2 : a < 1025 := by omega
          have e0 : (0 : Int) ≤ e := by omega
          have e1 : (e : Int) < 1025 := by omega
          have e2 : e < 1025 := by omega
          obtain ⟨x0, x1⟩ := (HI.out.call ((Below.refl _ _).alloc (Nat.le_refl _) (.cells #[.int .i64 (a : Int), .int .i64 (b : Int)] 31))).at_ a2
          have hue : updF f a (f a + 1) e = f e := by unfold updF; rw [if_neg (by omega)]
          clear hc2 hts htk hx hbd hll he
          have hz : w.heap.size < wr.heap.size := (Array.getElem?_eq_some_iff.1 HI.out.row).1
          have hz1 : ¬ wr.heap.size = w.heap.size := by omega
          have hz2 : ¬ w.heap.size = wr.heap.size := by omega
          have HA := Lib.hid ((HI.out.set a (f a + 1)).call ((Below.refl _ _).alloc (Nat.le_refl _) (.cells #[.int .i64 (a : Int), .int .i64 (b : Int)] 31)))
          have HUE := Lib.hid hue
          clear hue
          go_wp2_with (go_at_call 52; refine (CE.out _).mono ?_; rintro r w' ⟨rfl, hb⟩; have HI2 := Lib.hid (HA.out.call hb); obtain ⟨y0, y1⟩ := HI2.out.at_ e2; rw [HUE.out] at y0; clear hb x0 x1 hz1 hz2)
          go_roundg n2'
          case measure => omega
          case rel => exact ⟨k + 1, by omega, by go_num, by rw [← HTS.out]; exact HI2.out.set e (f e - 1)⟩
        · obtain rfl : k = l.length := by omega
          have HT := HI.out
          rw [List.take_length, ← HFS.out] at HT
          have i2 : ¬ ((l.length : Nat) : Int) < l.length := by omega
          have HTT := Lib.hid HT
          clear HT
          go_wp2_with fail
          go_roundg n'
          case measure => omega
          case rel => exact ⟨j + 1, by omega, by go_num, HTT.out⟩
    · obtain rfl : j = Ls.length := by omega
      have i1 : ¬ ((Ls.length : Nat) : Int) < Ls.length := by omega
      have hokL : Okay (flatL Ls Ls.length) := by
        intro x hx
        unfold flatL at hx
        obtain ⟨y, hy, hxy⟩ := List.mem_flatMap.1 hx
        exact (HOK.out y (List.mem_of_mem_take hy)).1 x hxy
      have hlL : (flatL Ls Ls.length).length ≤ 10000 := by have := HFL.out Ls.length (Nat.le_refl _); omega
      have hce := cov_end hokL
      have hR := HRR.out
      clear HRR
      generalize flatL Ls Ls.length = L at HI hokL hlL hce hR
      have hE := (stF_end (fun p => decide (least ≤ cov L p)) 1024 (by rw [hce]; simp; omega)).trans hR.symm
      have hW := fun k => was_dep (L := L) h1 k
      have hPk : ∀ k, decide (least ≤ cov L k) = decide ((least : Int) ≤ dep L (k + 1)) := fun k => by rw [dep_cov]; apply decide_eq_decide.2; omega
      obtain ⟨P, hP⟩ : ∃ P : Nat → Bool, P = fun p => decide (least ≤ cov L p) := ⟨_, rfl⟩
      have hPk' : ∀ k, P k = decide ((least : Int) ≤ dep L (k + 1)) := fun k => by rw [hP]; exact hPk k
      rw [← hP] at hW hE
      have HE := Lib.hid hE
      have HWAS := Lib.hid hW; have HPK := Lib.hid hPk'
      clear j0 HOK HFL HW hokL hce hW hPk hPk' hP hE hR
      obtain ⟨i0, hi, hz0, hz1, hz2⟩ := info_parts info_span
      have HIN := Lib.hid hi; have HZ0 := Lib.hid hz0; have HZ1 := Lib.hid hz1; have HZ2 := Lib.hid hz2
      clear hi hz0 hz1 hz2
      go_wp2_with fail
      refine wp_load_arr rfl rfl HI.out.row ?_
      go_wp2_with fail
      have hlt0 : w.heap.size < wr.heap.size := (Array.getElem?_eq_some_iff.1 HI.out.row).1
      have HBW := Lib.hid HI.out.below
      clear HI
      go_loopg [10, 11, 12, 44] 1025 (fun n1 v fr d pg W => ∃ (k : Nat), k + n1 = 1025 ∧ pg = .int .i64 k ∧ d = .int .i64 (dep L k) ∧ KInv w W P k v fr)
      case atStart => exact ⟨0, by omega, by go_num, by go_num, ⟨HBW.out, hlt0, World.ownsRow_nil _ _ _ _, fun a e => by simp [stF] at e⟩⟩
      case round =>
        clear HBW
        obtain ⟨k, hkn, rfl, rfl, hinv⟩ := hrel
        have k0 : (0 : Int) ≤ k := by omega
        by_cases hlt : k < 1025
        · obtain ⟨n', rfl⟩ : ∃ n', gk = n' + 1 := ⟨gk - 1, by omega⟩
          have hsu := stF_succ P k
          have hwas := HWAS.out k
          have hpk := HPK.out k
          obtain ⟨D0, D1⟩ := dep_pos L k
          obtain ⟨E0, E1⟩ := dep_pos L (k + 1)
          have hlen := stF_len P k
          have hsome := fun a => stF_some P (k := k) (a := a)
          have hopen := hinv.open_
          have hrow := hinv.row
          have hix := idx_arr (stp L) k hlt wr
          have hDS : dep L (k + 1) = dep L k + stp L k := rfl
          have HB := Lib.hid hinv.below; have hltw := hinv.lt
          obtain ⟨hsb0, hsb1⟩ := stp_bound L k
          have HNX := Lib.hid (show ∀ W v fr, Below w.heap.size w W → w.heap.size < W.heap.size → W.ownsRow (w.heap.size + 1) 31 2 v (stF P (k + 1)).1.length (SpC (stF P (k + 1)).1) → (∀ a, (stF P (k + 1)).2 = some a → fr = .int .i64 (a : Int)) → KInv w W P (k + 1) v fr from fun W v fr a b c d => ⟨a, b, c, d⟩)
          clear hinv
          generalize stF P (k + 1) = s' at hsu HNX
          generalize stF P k = s at hsu hwas hlen hsome hopen hrow
          obtain ⟨C, o⟩ := s
          rw [hDS] at hpk E0 E1
          generalize dep L k = D at hwas D0 D1 hDS hpk E0 E1 ⊢
          generalize stp L k = S at hix hDS hsb0 hsb1 hpk E0 E1
          have HDS := Lib.hid hDS
          clear hDS
          have w1 : IntKind.i64.wrap (D + S) = D + S := IntWalk.i64_in _ (by omega)
          have i1 : (k : Int) < 1025 := by omega
          simp only at hlen hrow hopen hsome hwas
          have HRW := Lib.hid hrow
          clear hrow
          have HW0 := Lib.hid hwas; have HP0 := Lib.hid hpk; have HSU := Lib.hid hsu; have HOP := Lib.hid hopen
          clear hwas hpk hsu hopen
          cases o with
          | none =>
            have c1 : ¬ (least : Int) ≤ D := by have := HW0.out; simp at this; omega
            cases hpk : P k
            · have c2 : ¬ (least : Int) ≤ D + S := by have := HP0.out; rw [hpk] at this; simp at this; omega
              have hs' := HSU.out
              rw [hpk] at hs'
              subst hs'
              clear hpk hsome
              go_wp2_with fail
              go_roundg n'
              case measure => omega
              case rel => exact ⟨k + 1, by omega, by go_num, congrArg (Value.int .i64) HDS.out.symm, HNX.out _ _ _ HB.out hltw HRW.out (fun a e => by simp [stepF] at e)⟩
            · have c2 : (least : Int) ≤ D + S := by have := HP0.out; rw [hpk] at this; simp at this; omega
              have hs' := HSU.out
              rw [hpk] at hs'
              subst hs'
              clear hpk hsome
              go_wp2_with fail
              go_roundg n'
              case measure => omega
              case rel => exact ⟨k + 1, by omega, by go_num, congrArg (Value.int .i64) HDS.out.symm, HNX.out _ _ _ HB.out hltw HRW.out (fun a e => by simp [stepF] at e; subst e; rfl)⟩
          | some a =>
            have hfr := HOP.out a rfl
            subst hfr
            have hak := hsome a rfl
            have c1 : (least : Int) ≤ D := by have := HW0.out; simp at this; omega
            cases hpk : P k
            · have c2 : ¬ (least : Int) ≤ D + S := by have := HP0.out; rw [hpk] at this; simp at this; omega
              have hs' := HSU.out
              rw [hpk] at hs'
              subst hs'
              have a0 : (0 : Int) ≤ a := by omega
              have hb1 : C.length + 1 ≤ maxLen := by unfold maxLen; omega
              have hb2 : (C.length + 1) * 16 ≤ 140737488355328 := by omega
              have w2 : IntKind.i64.wrap ((k : Int) - (a : Int)) = (k : Int) - (a : Int) := IntWalk.i64_in _ (by omega)
              have hcast : ((k - a : Nat) : Int) = (k : Int) - (a : Int) := by omega
              have HC := Lib.hid hcast
              have H1C := Lib.hid (two_onecell (a : Int) ((k : Int) - (a : Int))); have HX1 := Lib.hid hb1; have HX2 := Lib.hid hb2
              clear hpk hsome hcast hb1 hb2
              go_wp2_with (at_builtin; refine wpList_append_own _ rfl _ _ 22 rfl (w.heap.size + 1) 31 i0 (.agg #[.int .i64 0, .int .i64 0]) 2 16 Try.underlying22 HIN.out HZ0.out HZ1.out HZ2.out rfl (by decide) _ _ _ rfl (HRW.out.alloc _) ⟨wr.heap.size, 0, none⟩ 1 1 [.int .i64 (a : Int), .int .i64 ((k : Int) - (a : Int))] rfl rfl (cellB_two _ _ _ _ _ rfl) H1C.out HX1.out HX2.out (by simp; omega) ?_; intro v4 w4 hown4 hgrow4 hnil4)
              have hbb : Below (w.heap.size + 1) wr w4 := ((Below.refl _ _).alloc (by omega) _).grown hgrow4 (by simp; omega) (ownB_block HRW.out)
              go_roundg n'
              case measure => omega
              case rel => exact ⟨k + 1, by omega, by go_num, congrArg (Value.int .i64) HDS.out.symm, HNX.out _ _ _ (HB.out.trans (hbb.mono (by omega))) (Nat.lt_of_lt_of_le hltw hbb.size) (by
                show w4.ownsRow _ _ _ _ (C ++ [(a, k - a)]).length (SpC (C ++ [(a, k - a)]))
                rw [List.length_append, SpC_snoc, HC.out]; exact hown4) (fun b e => by simp [stepF] at e)⟩
            · have c2 : (least : Int) ≤ D + S := by have := HP0.out; rw [hpk] at this; simp at this; omega
              have hs' := HSU.out
              rw [hpk] at hs'
              subst hs'
              clear hpk hsome
              go_wp2_with fail
              go_roundg n'
              case measure => omega
              case rel => exact ⟨k + 1, by omega, by go_num, congrArg (Value.int .i64) HDS.out.symm, HNX.out _ _ _ HB.out hltw HRW.out (fun b e => by simp [stepF] at e; subst e; rfl)⟩
        · obtain rfl : k = 1025 := by omega
          have hrow := ownsRow_base hinv.row (Nat.le_succ w.heap.size)
          rw [HE.out] at hrow
          have HRW := Lib.hid hrow; have HB := Lib.hid hinv.below
          clear hrow hinv
          go_wp2_with fail
          go_ret
          exact ⟨_, rfl, HB.out, HRW.out⟩
end Go.Proofs.Ytnhbilcpdombfaa
