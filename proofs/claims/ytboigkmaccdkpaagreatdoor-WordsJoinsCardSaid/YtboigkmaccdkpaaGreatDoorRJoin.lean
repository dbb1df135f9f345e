/- The reference's Join. -/
import Derived.Test.YtboigkmaccdkpaaGreatDoorREnd
import Derived.Test.YtboigkmaccdkpaaGreatDoorJoin
import Derived.Test.YtboigkmaccdkpaaGreatDoorRQuotes
namespace Go.Proofs.YtboigkmaccdkpaaGreatDoor
open Go.RowKit Go.Shelf

set_option maxHeartbeats 2000000 in
set_option maxRecDepth 100000 in
theorem rjoin_some (g off cap : Nat) (fs : List Fld) (w : World) (h0 : 0 < fs.length) (hg : g < w.heap.size) (hsz : ∀ f ∈ fs, f.2.length ≤ 20000) (h64 : fs.length ≤ 64)
    (hc : ∀ j (h : j < fs.length), w.cell? ⟨g, off + j * 2, none⟩ = some (.bool fs[j].1) ∧ w.cell? ⟨g, off + j * 2 + 1, none⟩ = some (.string ⟨fs[j].2.toArray⟩)) :
    Calls Tryz.prog 41 #[.slice (some ⟨g, off, none⟩) fs.length cap] w (JoinPost fs w) := by
  have HC := Lib.hid hc; have HS := Lib.hid hsz
  clear hc hsz
  have h64' : ¬ (64 : Int) < fs.length := by omega
  go_enter Tryz.func41, Tryz.ntmps41
  go_wp2_with fail
  go_loopg [4, 5] fs.length (fun n v i wr => ∃ k : Nat, k + n = fs.length ∧ i = .int .i64 k ∧ v = .string ⟨(lineOf (fs.take k)).toArray⟩ ∧ Below w.heap.size w wr ∧ ∀ f ∈ fs.take k, (writeR f).2 = true)
  case atStart => exact ⟨0, by omega, by go_num, rfl, Below.refl _ _, by simp⟩
  case round =>
    obtain ⟨k, hkn, rfl, rfl, hbw, hall⟩ := hrel
    have HB := Lib.hid hbw; have HA := Lib.hid hall
    clear hbw hall
    by_cases hlt : k < fs.length
    · obtain ⟨n', rfl⟩ : ∃ n', gk = n' + 1 := ⟨gk - 1, by omega⟩
      have c0 := (HB.out.cell (p := ⟨g, off + k * 2, none⟩) hg).trans (HC.out k hlt).1
      have c1 := (HB.out.cell (p := ⟨g, off + k * 2 + 1, none⟩) hg).trans (HC.out k hlt).2
      have hmem : fs[k] ∈ fs := List.getElem_mem hlt
      have hts := take_snoc' fs k hlt
      have hxl := HS.out _ hmem
      obtain ⟨⟨q, X⟩, e0⟩ : ∃ p, fs[k] = p := ⟨_, rfl⟩
      rw [e0] at c0 c1 hts hmem hxl
      simp only at c0 c1 hxl
      have cR := fun W => rright_any q ⟨X.toArray⟩ W (by rw [ba_size]; exact hxl)
      have cQ := fun W => rquote_any ⟨X.toArray⟩ W (by rw [ba_size]; unfold maxLen; omega)
      rw [show (⟨X.toArray⟩ : ByteArray).data.toList = X by simp] at cR cQ
      unfold RightPost at cR
      unfold RQPost at cQ
      have ik : (k : Int) < fs.length := by omega
      have htl : (fs.take k).length = k := by rw [List.length_take]; omega
      have hll := lineOf_len _ HA.out
      rw [htl] at hll
      have hwl := @writeR_len (q, X)
      have hsn := lineOf_snoc (fs.take k) (q, X)
      rw [← hts] at hsn
      cases hok : (writeR (q, X)).2
      · rw [hok] at cR
        have CR := Lib.hid cR; clear cR cQ
        have hj : joinR fs = ([], 2) := by
          rw [joinR, if_neg (by omega), if_pos]
          rw [List.any_eq_true]; exact ⟨_, hmem, by rw [hok]; rfl⟩
        have HJ := Lib.hid hj; clear hj hmem hts hsn hwl hok e0
        go_wp2_with (go_at_call 68; refine (CR.out _).mono ?_; rintro e w1 ⟨rfl, hb1⟩; have HB1 := Lib.hid hb1; clear hb1)
        go_ret2
        exact joinPost_mk (l := []) (er := 2) HJ.out (HB.out.trans (HB1.out.mono HB.out.size))
      · rw [hok] at cR
        have hwl := hwl hok
        have hall' : ∀ f ∈ fs.take (k + 1), (writeR f).2 = true := by
          intro f hf
          rw [hts] at hf
          rcases List.mem_append.1 hf with h | h
          · exact HA.out f h
          · obtain rfl := List.mem_singleton.1 h; exact hok
        have HA' := Lib.hid hall'
        have hw : (writeR (q, X)).1 = if q then (quoteR X).1 else X := by unfold writeR; cases q <;> rfl
        rw [hw] at hsn hwl
        generalize quoteR X = r at cQ hsn hwl
        obtain ⟨T, er⟩ := r
        simp only at cQ hsn hwl
        have CR := Lib.hid cR; have CQ := Lib.hid cQ; clear cR cQ hts hmem hok e0 hall' hw HA
        generalize lineOf (fs.take k) = L at hsn hll ⊢
        have d0 := fun (w1 : World) (hb : Below wr.heap.size wr w1) => (hb.cell (p := ⟨g, off + k * 2, none⟩) (Nat.lt_of_lt_of_le hg HB.out.size)).trans c0
        have d1 := fun (w1 : World) (hb : Below wr.heap.size wr w1) => (hb.cell (p := ⟨g, off + k * 2 + 1, none⟩) (Nat.lt_of_lt_of_le hg HB.out.size)).trans c1
        have D0 := Lib.hid d0; have D1 := Lib.hid d1; clear d0 d1
        by_cases hk0 : k = 0
        · rw [if_pos (by rw [hk0]; rfl)] at hsn
          have hL0 : L.length = 0 := by rw [hk0] at hll; omega
          have HL0 := Lib.hid hL0; clear hL0
          subst hk0
          have d0 := D0.out; have d1 := D1.out
          simp only [Nat.zero_mul, Nat.add_zero] at c0 c1 d0 d1
          have D0 := Lib.hid d0; have D1 := Lib.hid d1; clear d0 d1
          cases q
          all_goals
            simp only [Bool.false_eq_true, if_false, if_true] at hsn hwl
            have HSN := Lib.hid hsn; clear hsn
            go_wp2_with (first
              | (go_at_call 68; refine (CR.out _).mono ?_; rintro e w1 ⟨rfl, hb1⟩; have HB1 := Lib.hid hb1; have e0 := D0.out _ hb1; have e1 := D1.out _ hb1; clear hb1)
              | (go_at_call 33; refine (CQ.out _).mono ?_; rintro e w2 ⟨rfl, rfl⟩))
            go_roundg n'
            case measure => omega
            case rel => exact ⟨0 + 1, by omega, by go_num, congrArg Value.string (ba_eq (by rw [HSN.out]; simp [List.eq_nil_of_length_eq_zero HL0.out])), HB.out.trans (HB1.out.mono HB.out.size), HA'.out⟩
        · have kz : (0 : Int) < (k : Int) := by omega
          rw [if_neg (by intro e; have := congrArg List.length e; rw [List.length_take, List.length_nil] at this; omega)] at hsn
          cases q
          all_goals
            simp only [Bool.false_eq_true, if_false, if_true] at hsn hwl
            have HSN := Lib.hid hsn; clear hsn
            go_wp2_with (first
              | (go_at_call 68; refine (CR.out _).mono ?_; rintro e w1 ⟨rfl, hb1⟩; have HB1 := Lib.hid hb1; have e0 := D0.out _ hb1; have e1 := D1.out _ hb1; clear hb1)
              | (go_at_call 33; refine (CQ.out _).mono ?_; rintro e w2 ⟨rfl, rfl⟩))
            go_roundg n'
            case measure => omega
            case rel => exact ⟨k + 1, by omega, by go_num, congrArg Value.string (ba_eq (by rw [HSN.out]; simp)), HB.out.trans (HB1.out.mono HB.out.size), HA'.out⟩
    · obtain rfl : k = fs.length := by omega
      have hA := HA.out
      rw [List.take_length] at hA ⊢
      have hj : joinR fs = if 4096 < (lineOf fs).length then ([], 3) else (lineOf fs, 0) := by
        unfold joinR
        rw [if_neg (by omega), if_neg]
        rw [List.any_eq_true]; rintro ⟨f, hf, hn⟩
        rw [hA f hf] at hn; cases hn
      have HJ := Lib.hid hj
      clear hj hA HA
      by_cases h96 : 4096 < (lineOf fs).length
      · have h96' : (4096 : Int) < (lineOf fs).length := by omega
        go_wp2_with fail
        go_ret2
        exact joinPost_mk (l := []) (by rw [HJ.out, if_pos h96]) HB.out
      · have h96' : ¬ (4096 : Int) < (lineOf fs).length := by omega
        go_wp2_with fail
        go_ret2
        exact joinPost_mk (by rw [HJ.out, if_neg h96]) HB.out
theorem rjoin_nil (p : Option Addr) (cap : Nat) (w : World) : Calls Tryz.prog 41 #[.slice p 0 cap] w (JoinPost [] w) := by
  go_enter Tryz.func41, Tryz.ntmps41
  go_wp2_with fail
  refine wp_loop_rounds 1 ?_
  rw [rounds_succ]
  go_wp2_with fail
  go_ret2
  exact joinPost_mk (l := []) rfl (Below.refl _ _)
theorem rjoin_many (p : Option Addr) (n cap : Nat) (fs : List Fld) (hn : fs.length = n) (h : 64 < n) (w : World) : Calls Tryz.prog 41 #[.slice p n cap] w (JoinPost fs w) := by
  have h64' : (64 : Int) < n := by omega
  go_enter Tryz.func41, Tryz.ntmps41
  go_wp2_with fail
  go_ret2
  exact joinPost_mk (l := []) (by rw [joinR, if_pos (by omega)]) (Below.refl _ _)
theorem rjoin_any (v : Value) (fs : List Fld) (w : World) (h : FldsAt w v fs) (hsz : ∀ f ∈ fs, f.2.length ≤ 20000) : Calls Tryz.prog 41 #[v] w (JoinPost fs w) := by
  rcases h with ⟨rfl, p, cap, rfl⟩ | ⟨h0, g, off, cap, rfl, hg, hc⟩
  · exact rjoin_nil p cap w
  · by_cases h64 : 64 < fs.length
    · exact rjoin_many _ _ cap fs rfl h64 w
    · exact rjoin_some g off cap fs w h0 hg hsz (by omega) hc
end Go.Proofs.YtboigkmaccdkpaaGreatDoor
