/- bits: Check, checkRun. -/
import Derived.Test.YtocgdibadcmnfaaDoorBtBase
namespace Go.Proofs.YtocgdibadcmnfaaDoor
open Go.RowKit

def wordC (x : Nat) : Value := .int .u64 (x : Int)
def wordCells (ws : List Nat) : List Value := ws.map wordC
/-- A slice that holds these words. -/
structure WordsAt (W : World) (p : Option Addr) (ws : List Nat) : Prop where
  len : ws.length ≤ maxLen
  lt : ∀ x ∈ ws, x < 2 ^ 64
  at_ : 0 < ws.length → ∃ g off, p = some ⟨g, off, none⟩ ∧ g < W.heap.size ∧ ∀ j (h : j < ws.length), W.cell? ⟨g, off + j, none⟩ = some (.int .u64 ((ws[j] : Nat) : Int))
theorem WordsAt.below {w w' : World} {p : Option Addr} {ws : List Nat} (h : WordsAt w p ws) (hb : Below w.heap.size w w') : WordsAt w' p ws :=
  ⟨h.len, h.lt, fun h0 => by
    obtain ⟨g, off, e, hg, hc⟩ := h.at_ h0
    exact ⟨g, off, e, Nat.lt_of_lt_of_le hg hb.size, fun j hj => (hb.cell (p := ⟨g, off + j, none⟩) hg).trans (hc j hj)⟩⟩
theorem WordsAt.none_ (W : World) (p : Option Addr) : WordsAt W p [] := ⟨by simp, by simp, fun h => absurd h (Nat.lt_irrefl _)⟩
theorem word_in {ws : List Nat} (h : ∀ x ∈ ws, x < 2 ^ 64) (k : Nat) (hk : k < ws.length) : ws[k] < 18446744073709551616 := h _ (List.getElem_mem hk)

/-- A word has no bit from n on. -/
def clearB (k n x : Nat) : Bool := (List.range 64).all fun j => !(decide (n ≤ 64 * k + j) && x.testBit j)
theorem clearB_iff (k n x : Nat) : clearB k n x = true ↔ ∀ j, j < 64 → n ≤ 64 * k + j → x.testBit j = false := by
  unfold clearB
  rw [List.all_eq_true]
  constructor
  · intro h j hj hn
    have := h j (List.mem_range.2 hj)
    simpa [hn] using this
  · intro h j hj
    by_cases hn : n ≤ 64 * k + j
    · simp [hn, h j (List.mem_range.1 hj) hn]
    · simp [hn]
theorem clear_and {x : Nat} (k n : Nat) (hx : x < 2 ^ 64) : x &&& (top - maskR k 0 n) = 0 ↔ clearB k n x = true := by
  rw [clearB_iff]
  constructor
  · intro h j hj hn
    have := congrArg (fun y => y.testBit j) h
    simp only [Nat.testBit_and, not_bit (mask_lt _ _ _), mask_bit, Nat.zero_testBit] at this
    have e : decide (j < 64 ∧ 0 ≤ 64 * k + j ∧ 64 * k + j < n) = false := by simp; omega
    rw [e] at this
    simpa [hj] using this
  · intro h
    apply Nat.eq_of_testBit_eq
    intro j
    rw [Nat.testBit_and, not_bit (mask_lt _ _ _), mask_bit, Nat.zero_testBit]
    by_cases hj : j < 64
    · by_cases hn : n ≤ 64 * k + j
      · rw [h j hj hn]; rfl
      · have e : decide (j < 64 ∧ 0 ≤ 64 * k + j ∧ 64 * k + j < n) = true := by simp; omega
        rw [e]; simp
    · rw [big_bit hx (by omega)]; rfl
theorem checkR_bad {n : Nat} {ws : List Nat} {k : Nat} (hn : n ≤ 4096) (hl : ws.length = lenW n) (hk : k < ws.length) (h : clearB k n ws[k] = false) : checkR n ws = 6 := by
  unfold checkR
  rw [if_neg (by omega), Int.toNat_natCast, if_neg (by rw [hl]; simp), if_pos]
  have hh : ¬ ∀ j, j < 64 → n ≤ 64 * k + j → ws[k].testBit j = false := fun hc => by rw [(clearB_iff _ _ _).2 hc] at h; cases h
  simp only [Classical.not_forall] at hh
  obtain ⟨j, hj, hn, hb⟩ := hh
  rw [List.any_eq_true]
  refine ⟨64 * k + j, List.mem_range.2 (by omega), ?_⟩
  rw [bitN_at _ _ _ hj, List.getElem?_eq_getElem hk]
  simp only [Option.getD_some, Bool.and_eq_true, decide_eq_true_eq]
  exact ⟨hn, by simpa using hb⟩
theorem checkR_good {n : Nat} {ws : List Nat} (hn : n ≤ 4096) (hl : ws.length = lenW n) (h : ∀ k (hk : k < ws.length), clearB k n ws[k] = true) : checkR n ws = 0 := by
  unfold checkR
  rw [if_neg (by omega), Int.toNat_natCast, if_neg (by rw [hl]; simp), if_neg]
  rw [List.any_eq_true]
  rintro ⟨i, hi, hb⟩
  simp only [Bool.and_eq_true, decide_eq_true_eq] at hb
  have hi' := List.mem_range.1 hi
  have hk : i / 64 < ws.length := by omega
  have hc := (clearB_iff _ _ _).1 (h (i / 64) hk) (i % 64) (by omega) (by omega)
  have e := hb.2
  unfold bitN at e
  rw [List.getElem?_eq_getElem hk] at e
  simp only [Option.getD_some] at e
  rw [hc] at e; cases e
theorem take_all' {α : Type} (l : List α) (P : α → Prop) (k : Nat) (hk : k < l.length) (h : ∀ j (hj : j < l.length), j < k → P l[j]) (hp : P l[k]) : ∀ j (hj : j < l.length), j < k + 1 → P l[j] := by
  intro j hj hlt
  by_cases e : j = k
  · subst e; exact hp
  · exact h j hj (by omega)

set_option maxHeartbeats 1000000 in
set_option maxRecDepth 100000 in
theorem check_any (n : Int) (p : Option Addr) (cap : Nat) (ws : List Nat) (w : World) (h : WordsAt w p ws) :
    Calls Tryd.prog 19 #[.agg #[.int .i64 n, .slice p ws.length cap]] w fun e w' => e = .returned (.int .i64 (checkR n ws)) ∧ Below w.heap.size w w' := by
  have hlm := h.len
  unfold maxLen at hlm
  by_cases h1 : n < 0
  · have e : checkR n ws = 7 := by unfold checkR; rw [if_pos (.inl h1)]
    have E := Lib.hid e; clear e
    go_enter Tryd.func19, Tryd.ntmps19
    go_wp2_with fail
    go_ret
    exact ⟨ret_int E.out.symm, (Below.refl _ _).alloc (Nat.le_refl _) _⟩
  · by_cases h2 : 4096 < n
    · have e : checkR n ws = 7 := by unfold checkR; rw [if_pos (.inr h2)]
      have E := Lib.hid e; clear e
      go_enter Tryd.func19, Tryd.ntmps19
      go_wp2_with fail
      go_ret
      exact ⟨ret_int E.out.symm, (Below.refl _ _).alloc (Nat.le_refl _) _⟩
    · obtain ⟨m, rfl⟩ : ∃ m : Nat, n = (m : Int) := ⟨n.toNat, by omega⟩
      have hm : m ≤ 4096 := by omega
      have hL := lenW m
      have cl := fun W => length_any m (by omega) W
      have CL := Lib.hid cl; have HA := Lib.hid h; clear cl hL h
      by_cases h3 : ws.length = lenW m
      · rw [← h3] at CL
        have H3 := Lib.hid h3; clear h3
        go_enter Tryd.func19, Tryd.ntmps19
        go_wp2_with fail
        go_quiet ((go_at_call 50; exact Calls.quiet_of_same ((CL.out _).mono fun _ _ ⟨a, b⟩ => ⟨a, b.symm⟩)))
        go_wp2_with fail
        go_loop [23] (fun i => ∃ k : Nat, k ≤ ws.length ∧ i = .int .i64 k ∧ ∀ j (hj : j < ws.length), j < k → clearB j m ws[j] = true) (fun i => ws.length - (intOf i).toNat)
        case atStart => exact ⟨0, Nat.zero_le _, by go_num, fun j _ h => absurd h (Nat.not_lt_zero _)⟩
        case round =>
          obtain ⟨k, hk, rfl, hall⟩ := hrel
          have HALL := Lib.hid hall; clear hall
          by_cases hlt : k < ws.length
          · obtain ⟨g, off, rfl, hg, hc⟩ := HA.out.at_ (by omega)
            have c0 := hc k hlt
            have hx := word_in HA.out.lt k hlt
            have hkl : k ≤ 64 := by have := H3.out; unfold lenW at this; omega
            have cm := fun W => mask_any k 0 m (by omega) (by omega) (by omega) W
            have ik : (k : Int) < ws.length := by omega
            have e3 := u64_andNot_nat ws[k] (maskR k 0 m) hx (mask_lt _ _ _)
            have hcl := clear_and k m hx
            have hbad := checkR_bad hm H3.out hlt
            have hgood := take_all' ws (fun x => True) k hlt (fun _ _ _ => trivial) trivial
            clear hgood
            have htk : clearB k m ws[k] = true → ∀ j (hj : j < ws.length), j < k + 1 → clearB j m ws[j] = true := by
              intro h j hj hlt
              by_cases e : j = k
              · subst e; exact h
              · exact HALL.out j hj (by omega)
            rw [show 18446744073709551615 - maskR k 0 m = top - maskR k 0 m from rfl] at e3
            generalize ws[k] = x at c0 hx e3 hcl hbad htk
            generalize maskR k 0 m = M at cm e3 hcl
            generalize x &&& (top - M) = y at e3 hcl
            have CM := Lib.hid cm; have HBAD := Lib.hid hbad; have HTK := Lib.hid htk; clear cm hbad htk hc
            cases hb : clearB k m x
            · have hy : ¬ y = 0 := fun e => by rw [hcl.1 e] at hb; cases hb
              have t1 : ((bits .andNot .u64 (x : Int) (M : Int)) != 0) = true := by rw [e3, bne_iff_ne]; omega
              have hb2 := HBAD.out hb
              have HB := Lib.hid hb2
              clear hcl hb hb2 e3 hy hx
              go_wp2_with (go_at_call 53; refine (CM.out _).mono ?_; rintro e w' ⟨rfl, rfl⟩)
              go_ret
              exact ⟨ret_int HB.out.symm, ((Below.refl _ _).alloc (Nat.le_refl _) _).trans ⟨rfl, rfl, rfl, Nat.le_refl _, fun _ _ => rfl⟩⟩
            · have hy : y = 0 := hcl.2 hb
              have t1 : ((bits .andNot .u64 (x : Int) (M : Int)) != 0) = false := by rw [e3, hy]; rfl
              have hb2 := HTK.out hb
              have HB := Lib.hid hb2
              clear hcl hb hb2 e3 hy hx
              go_wp2_with (go_at_call 53; refine (CM.out _).mono ?_; rintro e w' ⟨rfl, rfl⟩)
              go_round
              case rel => exact ⟨k + 1, by omega, by go_num, HB.out⟩
              case measure => simp [intOf]; omega
          · obtain rfl : k = ws.length := by omega
            have hg := checkR_good hm H3.out (fun j hj => HALL.out j hj hj)
            have HG := Lib.hid hg; clear hg
            go_wp2_with fail
            go_ret
            exact ⟨ret_int HG.out.symm, ((Below.refl _ _).alloc (Nat.le_refl _) _).trans ⟨rfl, rfl, rfl, Nat.le_refl _, fun _ _ => rfl⟩⟩
      · have e : checkR m ws = 6 := by unfold checkR; rw [if_neg (by omega), Int.toNat_natCast, if_pos h3]
        have t1 : ((ws.length : Int) != ((lenW m : Nat) : Int)) = true := by rw [bne_iff_ne]; omega
        have E := Lib.hid e; clear e h3
        go_enter Tryd.func19, Tryd.ntmps19
        go_wp2_with fail
        go_quiet ((go_at_call 50; exact Calls.quiet_of_same ((CL.out _).mono fun _ _ ⟨a, b⟩ => ⟨a, b.symm⟩)))
        go_wp2_with fail
        go_ret
        exact ⟨ret_int E.out.symm, ((Below.refl _ _).alloc (Nat.le_refl _) _).trans ⟨rfl, rfl, rfl, Nat.le_refl _, fun _ _ => rfl⟩⟩
end Go.Proofs.YtocgdibadcmnfaaDoor
