/- Bits: plain facts on words and their bits. -/
namespace Go.Proofs.YtocgdibadcmnfaaDoor

/-- The number of i below m with f. -/
def cnt (f : Nat → Bool) : Nat → Nat
  | 0 => 0
  | m + 1 => cnt f m + (if f m then 1 else 0)
theorem cnt_succ (f : Nat → Bool) (m : Nat) : cnt f (m + 1) = cnt f m + (if f m then 1 else 0) := rfl
theorem cnt_le (f : Nat → Bool) : ∀ m, cnt f m ≤ m
  | 0 => Nat.le_refl _
  | m + 1 => by have := cnt_le f m; rw [cnt_succ]; split <;> omega
theorem cnt_congr {f g : Nat → Bool} : ∀ m, (∀ i, i < m → f i = g i) → cnt f m = cnt g m
  | 0, _ => rfl
  | m + 1, h => by rw [cnt_succ, cnt_succ, cnt_congr m (fun i hi => h i (by omega)), h m (by omega)]
theorem cnt_add (f : Nat → Bool) (a : Nat) : ∀ b, cnt f (a + b) = cnt f a + cnt (fun i => f (a + i)) b
  | 0 => rfl
  | b + 1 => by rw [← Nat.add_assoc, cnt_succ, cnt_add f a b, cnt_succ]; omega
theorem cnt_zero {f : Nat → Bool} {m : Nat} (h : ∀ i, i < m → f i = false) : cnt f m = 0 := by
  induction m with
  | zero => rfl
  | succ m ih => rw [cnt_succ, ih (fun i hi => h i (by omega)), h m (by omega)]; rfl
theorem cnt_mono (f : Nat → Bool) {a b : Nat} (h : a ≤ b) : cnt f a ≤ cnt f b := by
  obtain ⟨d, rfl⟩ : ∃ d, b = a + d := ⟨b - a, by omega⟩
  rw [cnt_add]; omega
theorem cnt_lt (f : Nat → Bool) {a b : Nat} (h : a < b) (hf : f a = true) : cnt f a < cnt f b := by
  have := cnt_mono f (show a + 1 ≤ b from h)
  rw [cnt_succ, hf] at this
  simp at this; omega
theorem cnt_inj (f : Nat → Bool) {a b : Nat} (ha : f a = true) (hb : f b = true) (h : cnt f a = cnt f b) : a = b := by
  rcases Nat.lt_trichotomy a b with h1 | h1 | h1
  · have := cnt_lt f h1 ha; omega
  · exact h1
  · have := cnt_lt f h1 hb; omega
theorem cnt_not (f : Nat → Bool) : ∀ m, cnt (fun i => !f i) m = m - cnt f m
  | 0 => rfl
  | m + 1 => by have := cnt_le f m; rw [cnt_succ, cnt_succ, cnt_not f m]; cases f m <;> simp <;> omega
theorem cnt_window (f : Nat → Bool) (a b : Nat) (h : a ≤ b) (m : Nat) (hm : b ≤ m) : cnt (fun i => f i && (decide (a ≤ i) && decide (i < b))) m = cnt f b - cnt f a := by
  obtain ⟨d, rfl⟩ : ∃ d, b = a + d := ⟨b - a, by omega⟩
  obtain ⟨c, rfl⟩ : ∃ c, m = a + d + c := ⟨m - (a + d), by omega⟩
  rw [cnt_add, cnt_add, cnt_zero, cnt_add f a d]
  · have e : cnt (fun i => f (a + i) && (decide (a ≤ a + i) && decide (a + i < a + d))) d = cnt (fun i => f (a + i)) d := by
      refine cnt_congr _ fun i hi => ?_
      have h1 : decide (a ≤ a + i) = true := by simp
      have h2 : decide (a + i < a + d) = true := by simp; omega
      rw [h1, h2]; simp
    have e2 : cnt (fun i => f (a + d + i) && (decide (a ≤ a + d + i) && decide (a + d + i < a + d))) c = 0 := cnt_zero fun i hi => by
      have h2 : decide (a + d + i < a + d) = false := by simp
      rw [h2]; simp
    rw [e, e2]; omega
  · intro i hi
    have h1 : decide (a ≤ i) = false := by simp; omega
    rw [h1]; simp

/-- The bit i of these words. -/
def bitN (ws : List Nat) (i : Nat) : Bool := (ws[i / 64]?.getD 0).testBit (i % 64)
def lenW (n : Nat) : Nat := (n + 63) / 64
def top : Nat := 18446744073709551615
theorem top_pow : top = 2 ^ 64 - 1 := rfl
theorem not_bit {x : Nat} (h : x < 2 ^ 64) (j : Nat) : (top - x).testBit j = (decide (j < 64) && !x.testBit j) := by
  have := Nat.testBit_two_pow_sub_succ h j
  rw [show 2 ^ 64 - (x + 1) = top - x by unfold top; omega] at this
  exact this
theorem big_bit {x : Nat} (h : x < 2 ^ 64) {j : Nat} (hj : 64 ≤ j) : x.testBit j = false :=
  Nat.testBit_lt_two_pow (Nat.lt_of_lt_of_le h (Nat.pow_le_pow_right (by decide) hj))
def onesR (k : Nat) : Nat := 2 ^ min k 64 - 1
theorem ones_lt (k : Nat) : onesR k < 2 ^ 64 := by
  have : 2 ^ min k 64 ≤ 2 ^ 64 := Nat.pow_le_pow_right (by decide) (Nat.min_le_right _ _)
  have h2 : 0 < 2 ^ min k 64 := Nat.two_pow_pos _
  unfold onesR; omega
theorem ones_bit (k j : Nat) : (onesR k).testBit j = decide (j < k ∧ j < 64) := by
  unfold onesR
  rw [Nat.testBit_two_pow_sub_one]
  apply decide_eq_decide.2; omega
/-- The word with a one for each bit of the word w from a on, below b. -/
def maskR (w a b : Nat) : Nat := onesR (b - 64 * w) &&& (top - onesR (a - 64 * w))
theorem mask_bit (w a b j : Nat) : (maskR w a b).testBit j = decide (j < 64 ∧ a ≤ 64 * w + j ∧ 64 * w + j < b) := by
  unfold maskR
  rw [Nat.testBit_and, not_bit (ones_lt _), ones_bit, ones_bit, Bool.eq_iff_iff]
  simp only [Bool.and_eq_true, decide_eq_true_eq, Bool.not_eq_true', decide_eq_false_iff_not]
  omega
theorem mask_lt (w a b : Nat) : maskR w a b < 2 ^ 64 := Nat.and_lt_two_pow _ (by unfold top; omega)
theorem eq_of_bits {x y : Nat} (hx : x < 2 ^ 64) (hy : y < 2 ^ 64) (h : ∀ j, j < 64 → x.testBit j = y.testBit j) : x = y := by
  apply Nat.eq_of_testBit_eq
  intro j
  by_cases hj : j < 64
  · exact h j hj
  · rw [big_bit hx (by omega), big_bit hy (by omega)]

/-- Words that hold n bits. -/
structure Valid (n : Nat) (ws : List Nat) : Prop where
  le : n ≤ 4096
  len : ws.length = lenW n
  lt : ∀ x ∈ ws, x < 2 ^ 64
  clear : ∀ i, n ≤ i → bitN ws i = false
theorem bitN_at (ws : List Nat) (w j : Nat) (hj : j < 64) : bitN ws (64 * w + j) = (ws[w]?.getD 0).testBit j := by
  unfold bitN
  rw [show (64 * w + j) / 64 = w by omega, show (64 * w + j) % 64 = j by omega]
theorem bitN_out {ws : List Nat} {i : Nat} (h : 64 * ws.length ≤ i) : bitN ws i = false := by
  unfold bitN; rw [List.getElem?_eq_none (by omega)]; simp
theorem valid_ext {n : Nat} {ws ws' : List Nat} (h : Valid n ws) (h' : Valid n ws') (hb : ∀ i, i < n → bitN ws i = bitN ws' i) : ws = ws' := by
  apply List.ext_getElem (by rw [h.len, h'.len])
  intro w h1 h2
  refine eq_of_bits (h.lt _ (List.getElem_mem h1)) (h'.lt _ (List.getElem_mem h2)) fun j hj => ?_
  have e1 := bitN_at ws w j hj
  have e2 := bitN_at ws' w j hj
  rw [List.getElem?_eq_getElem h1] at e1
  rw [List.getElem?_eq_getElem h2] at e2
  simp only [Option.getD_some] at e1 e2
  rw [← e1, ← e2]
  by_cases hi : 64 * w + j < n
  · exact hb _ hi
  · rw [h.clear _ (by omega), h'.clear _ (by omega)]

/-- The word whose bits below k are these. -/
def wordK (g : Nat → Bool) : Nat → Nat
  | 0 => 0
  | k + 1 => wordK g k + (if g k then 2 ^ k else 0)
theorem wordK_lt (g : Nat → Bool) : ∀ k, wordK g k < 2 ^ k
  | 0 => by simp [wordK]
  | k + 1 => by
    have := wordK_lt g k
    rw [wordK, Nat.pow_succ]; split <;> omega
theorem wordK_bit (g : Nat → Bool) : ∀ k j, (wordK g k).testBit j = (decide (j < k) && g j)
  | 0, j => by simp [wordK]
  | k + 1, j => by
    have hl := wordK_lt g k
    have ih := wordK_bit g k j
    rw [wordK]
    by_cases hg : g k = true
    · rw [if_pos hg]
      by_cases hj : j < k
      · rw [Nat.add_comm, Nat.testBit_two_pow_add_gt hj, ih]; simp [hj, show j < k + 1 by omega]
      · by_cases he : j = k
        · subst he
          rw [Nat.add_comm, Nat.testBit_two_pow_add_eq, ih]; simp [hg]
        · have : (wordK g k + 2 ^ k).testBit j = false := Nat.testBit_lt_two_pow (Nat.lt_of_lt_of_le (show wordK g k + 2 ^ k < 2 ^ (k + 1) by rw [Nat.pow_succ]; omega) (Nat.pow_le_pow_right (by decide) (by omega)))
          rw [this]; simp [show ¬ j < k + 1 by omega]
    · rw [if_neg hg, Nat.add_zero, ih]
      by_cases he : j = k
      · subst he; simp [hg]
      · have : decide (j < k + 1) = decide (j < k) := decide_eq_decide.2 (by omega)
        rw [this]
/-- The words of n bits. -/
def packR (n : Nat) (f : Nat → Bool) : List Nat := (List.range (lenW n)).map fun w => wordK (fun j => decide (64 * w + j < n) && f (64 * w + j)) 64
theorem pack_len (n : Nat) (f : Nat → Bool) : (packR n f).length = lenW n := by simp [packR]
theorem pack_bit (n : Nat) (f : Nat → Bool) (i : Nat) : bitN (packR n f) i = (decide (i < n) && f i) := by
  unfold bitN packR
  rw [List.getElem?_map]
  by_cases h : i / 64 < lenW n
  · rw [List.getElem?_range h]
    simp only [Option.map_some, Option.getD_some]
    rw [wordK_bit, show 64 * (i / 64) + i % 64 = i by omega]
    have : decide (i % 64 < 64) = true := by simp; omega
    rw [this, Bool.true_and]
  · have hn : ¬ i < n := by unfold lenW at h; omega
    rw [List.getElem?_eq_none (by simpa using h)]
    simp [hn]
theorem pack_valid {n : Nat} (h : n ≤ 4096) (f : Nat → Bool) : Valid n (packR n f) := by
  refine ⟨h, pack_len n f, ?_, ?_⟩
  · intro x hx
    obtain ⟨w, _, rfl⟩ := List.mem_map.1 hx
    exact wordK_lt _ 64
  · intro i hi
    rw [pack_bit]; simp [show ¬ i < n by omega]
theorem valid_pack {n : Nat} {ws : List Nat} (h : Valid n ws) {f : Nat → Bool} (hf : ∀ i, i < n → bitN ws i = f i) : ws = packR n f :=
  valid_ext h (pack_valid h.le f) fun i hi => by rw [pack_bit, hf i hi]; simp [hi]
theorem pack_congr {n : Nat} {f g : Nat → Bool} (h : ∀ i, i < n → f i = g i) : packR n f = packR n g := by
  unfold packR
  apply List.map_congr_left
  intro w _
  congr 1
  funext j
  by_cases hj : 64 * w + j < n
  · simp [hj, h _ hj]
  · simp [hj]

/-- What Check returns of these. -/
def checkR (n : Int) (ws : List Nat) : Int :=
  if n < 0 ∨ 4096 < n then 7 else if ws.length ≠ lenW n.toNat then 6 else
  if (List.range (64 * ws.length)).any (fun i => decide (n.toNat ≤ i) && bitN ws i) then 6 else 0
theorem checkR_ok {n : Int} {ws : List Nat} (hl : ∀ x ∈ ws, x < 2 ^ 64) (h : checkR n ws = 0) : 0 ≤ n ∧ Valid n.toNat ws := by
  unfold checkR at h
  split at h
  · cases h
  · rename_i h1
    split at h
    · cases h
    · rename_i h2
      split at h
      · cases h
      · rename_i h3
        refine ⟨by omega, by omega, Classical.not_not.1 h2, hl, fun i hi => ?_⟩
        by_cases hb : i < 64 * ws.length
        · cases he : bitN ws i with
          | false => rfl
          | true =>
            exfalso; apply h3
            rw [List.any_eq_true]
            exact ⟨i, List.mem_range.2 hb, by simp [hi, he]⟩
        · exact bitN_out (by omega)
theorem checkR_of {n : Nat} {ws : List Nat} (h : Valid n ws) : checkR n ws = 0 := by
  unfold checkR
  have h0 := h.le
  rw [if_neg (by omega), Int.toNat_natCast, if_neg (by rw [h.len]; simp), if_neg]
  intro ha
  obtain ⟨i, _, hi⟩ := List.any_eq_true.1 ha
  simp only [Bool.and_eq_true, decide_eq_true_eq] at hi
  rw [h.clear i hi.1] at hi
  exact absurd hi.2 (by decide)

/-- A word of valid bits, under a mask. -/
def xorOn (on : Bool) (b : Bool) : Bool := b == on
theorem and_le_top {x : Nat} (h : x < 2 ^ 64) : x &&& top = x := by
  apply Nat.eq_of_testBit_eq; intro j
  rw [Nat.testBit_and]
  by_cases hj : j < 64
  · rw [top_pow, Nat.testBit_two_pow_sub_one]; simp [hj]
  · rw [big_bit h (by omega)]; simp

-- counting the ones of a word
def m5 : Nat → Nat
  | 0 => 0
  | k + 1 => 85 + 256 * m5 k
def m3 : Nat → Nat
  | 0 => 0
  | k + 1 => 51 + 256 * m3 k
def mf : Nat → Nat
  | 0 => 0
  | k + 1 => 15 + 256 * mf k
theorem and_256 (x m M : Nat) (hm : m < 256) : x &&& (m + 256 * M) = (x % 256 &&& m) + 256 * (x / 256 &&& M) := by
  have hlt : x % 256 &&& m < 2 ^ 8 := Nat.and_lt_two_pow _ hm
  have e : (x % 256 &&& m) + 256 * (x / 256 &&& M) = 2 ^ 8 * (x / 256 &&& M) + (x % 256 &&& m) := by omega
  apply Nat.eq_of_testBit_eq
  intro j
  rw [e, Nat.testBit_two_pow_mul_add _ hlt, Nat.testBit_and, show m + 256 * M = 2 ^ 8 * M + m by omega, Nat.testBit_two_pow_mul_add _ hm]
  by_cases hj : j < 8
  · rw [if_pos hj, if_pos hj, Nat.testBit_and, show x % 256 = x % 2 ^ 8 from rfl, Nat.testBit_mod_two_pow]; simp [hj]
  · rw [if_neg hj, if_neg hj, Nat.testBit_and, show x / 256 = x / 2 ^ 8 from rfl, Nat.testBit_div_two_pow, show j - 8 + 8 = j by omega]
def s1 (k x : Nat) : Nat := (x / 2 &&& m5 k) + (x &&& m5 k)
def s2 (k x : Nat) : Nat := (x / 4 &&& m3 k) + (x &&& m3 k)
def s3 (k x : Nat) : Nat := (x / 16 + x) &&& mf k
theorem d1 : ∀ b, b < 256 → ∀ t, t < 2 → (b / 2 + 128 * t) &&& 85 = b / 2 &&& 85 := by decide +kernel
theorem d2 : ∀ b, b < 256 → ∀ t, t < 4 → (b / 4 + 64 * t) &&& 51 = b / 4 &&& 51 := by decide +kernel
theorem s1_succ (k x : Nat) : s1 (k + 1) x = ((x % 256 / 2 &&& 85) + (x % 256 &&& 85)) + 256 * s1 k (x / 256) := by
  unfold s1
  rw [m5, and_256 _ _ _ (by omega), and_256 _ _ _ (by omega), show x / 2 / 256 = x / 256 / 2 by omega, show x / 2 % 256 = x % 256 / 2 + 128 * (x / 256 % 2) by omega, d1 _ (by omega) _ (by omega)]
  omega
theorem s2_succ (k x : Nat) : s2 (k + 1) x = ((x % 256 / 4 &&& 51) + (x % 256 &&& 51)) + 256 * s2 k (x / 256) := by
  unfold s2
  rw [m3, and_256 _ _ _ (by omega), and_256 _ _ _ (by omega), show x / 4 / 256 = x / 256 / 4 by omega, show x / 4 % 256 = x % 256 / 4 + 64 * (x / 256 % 4) by omega, d2 _ (by omega) _ (by omega)]
  omega
def t8 (b : Nat) : Nat := let c := (b / 2 &&& 85) + (b &&& 85); (c / 4 &&& 51) + (c &&& 51)
theorem c_lt : ∀ b, b < 256 → (b / 2 &&& 85) + (b &&& 85) < 256 := by decide +kernel
theorem t_lt : ∀ b, b < 256 → t8 b % 16 ≤ 4 ∧ t8 b / 16 ≤ 4 := by decide +kernel
theorem t_pop : ∀ b, b < 256 → (t8 b / 16 + t8 b) % 16 = cnt b.testBit 8 := by decide +kernel
theorem T_succ (k x : Nat) : s2 (k + 1) (s1 (k + 1) x) = t8 (x % 256) + 256 * s2 k (s1 k (x / 256)) := by
  have h := c_lt (x % 256) (by omega)
  unfold t8
  rw [s2_succ, s1_succ]
  generalize (x % 256 / 2 &&& 85) + (x % 256 &&& 85) = c at h
  rw [show (c + 256 * s1 k (x / 256)) % 256 = c by omega, show (c + 256 * s1 k (x / 256)) / 256 = s1 k (x / 256) by omega]
theorem T_zero (x : Nat) : s2 0 (s1 0 x) = 0 := by simp [s2, s1, m5, m3]
theorem T_low (k x : Nat) : s2 k (s1 k x) % 16 ≤ 4 := by
  cases k with
  | zero => rw [T_zero]; omega
  | succ k =>
    have := (t_lt (x % 256) (by omega)).1
    rw [T_succ]; omega
theorem P_succ (k x : Nat) : s3 (k + 1) (s2 (k + 1) (s1 (k + 1) x)) = cnt (x % 256).testBit 8 + 256 * s3 k (s2 k (s1 k (x / 256))) := by
  have h1 := t_lt (x % 256) (by omega)
  have h2 := t_pop (x % 256) (by omega)
  have h3 := T_low k (x / 256)
  rw [T_succ]
  generalize s2 k (s1 k (x / 256)) = y at h3 ⊢
  generalize t8 (x % 256) = c at h1 h2 ⊢
  unfold s3
  rw [mf, and_256 _ _ _ (by omega), ← h2, show ((c + 256 * y) / 16 + (c + 256 * y)) / 256 = y / 16 + y by omega]
  congr 1
  rw [show (15 : Nat) = 2 ^ 4 - 1 from rfl, Nat.and_two_pow_sub_one_eq_mod]
  omega
theorem cnt_byte (x m : Nat) : cnt x.testBit (8 + m) = cnt (x % 256).testBit 8 + cnt (x / 256).testBit m := by
  rw [cnt_add]
  congr 1
  · refine cnt_congr _ fun i hi => ?_
    rw [show x % 256 = x % 2 ^ 8 from rfl, Nat.testBit_mod_two_pow]; simp [hi]
  · refine cnt_congr _ fun i hi => ?_
    rw [show x / 256 = x / 2 ^ 8 from rfl, Nat.testBit_div_two_pow, Nat.add_comm]
/-- The bytes of the third sum are the ones of the bytes. -/
theorem pop_sum (x : Nat) : ∃ p0 p1 p2 p3 p4 p5 p6 p7 : Nat, p0 ≤ 8 ∧ p1 ≤ 8 ∧ p2 ≤ 8 ∧ p3 ≤ 8 ∧ p4 ≤ 8 ∧ p5 ≤ 8 ∧ p6 ≤ 8 ∧ p7 ≤ 8 ∧
    s3 8 (s2 8 (s1 8 x)) = p0 + 256 * (p1 + 256 * (p2 + 256 * (p3 + 256 * (p4 + 256 * (p5 + 256 * (p6 + 256 * p7)))))) ∧ cnt x.testBit 64 = p0 + (p1 + (p2 + (p3 + (p4 + (p5 + (p6 + p7)))))) := by
  have hz : ∀ y, s3 0 (s2 0 (s1 0 y)) = 0 := fun y => by simp [s3, mf]
  refine ⟨cnt (x % 256).testBit 8, cnt ((x / 256) % 256).testBit 8, cnt (((x / 256) / 256) % 256).testBit 8, cnt ((((x / 256) / 256) / 256) % 256).testBit 8, cnt (((((x / 256) / 256) / 256) / 256) % 256).testBit 8, cnt ((((((x / 256) / 256) / 256) / 256) / 256) % 256).testBit 8, cnt (((((((x / 256) / 256) / 256) / 256) / 256) / 256) % 256).testBit 8, cnt ((((((((x / 256) / 256) / 256) / 256) / 256) / 256) / 256) % 256).testBit 8, cnt_le _ _, cnt_le _ _, cnt_le _ _, cnt_le _ _, cnt_le _ _, cnt_le _ _, cnt_le _ _, cnt_le _ _, ?_, ?_⟩
  · rw [P_succ, P_succ, P_succ, P_succ, P_succ, P_succ, P_succ, P_succ, hz, Nat.mul_zero, Nat.add_zero]
  · rw [show 64 = 8 + (8 + (8 + (8 + (8 + (8 + (8 + (8 + 0))))))) from rfl, cnt_byte, cnt_byte, cnt_byte, cnt_byte, cnt_byte, cnt_byte, cnt_byte, cnt_byte]
    rfl
theorem pop_end (x : Nat) (y : Nat) (hy : y = s3 8 (s2 8 (s1 8 x))) : ∀ a b c : Nat, a = y + y / 256 → b = a + a / 65536 → c = b + b / 4294967296 → c % 128 = cnt x.testBit 64 ∧ a < 2 ^ 63 ∧ b < 2 ^ 63 ∧ c < 2 ^ 63 := by
  obtain ⟨p0, p1, p2, p3, p4, p5, p6, p7, h0, h1, h2, h3, h4, h5, h6, h7, hs, hc⟩ := pop_sum x
  rw [← hy] at hs
  intro a b c ha hb hcc
  rw [hc]
  clear hy hc
  have ha' : a = (p0 + p1) + 256 * ((p1 + p2) + 256 * ((p2 + p3) + 256 * ((p3 + p4) + 256 * ((p4 + p5) + 256 * ((p5 + p6) + 256 * ((p6 + p7) + 256 * p7)))))) := by omega
  clear ha hs
  have hb' : b = (p0 + p1 + p2 + p3) + 256 * ((p1 + p2 + p3 + p4) + 256 * ((p2 + p3 + p4 + p5) + 256 * ((p3 + p4 + p5 + p6) + 256 * ((p4 + p5 + p6 + p7) + 256 * ((p5 + p6 + p7) + 256 * ((p6 + p7) + 256 * p7)))))) := by omega
  clear hb
  have hq : b / 4294967296 = (p4 + p5 + p6 + p7) + 256 * ((p5 + p6 + p7) + 256 * ((p6 + p7) + 256 * p7)) := by omega
  rw [hq] at hcc
  have h2 : c = (p0 + p1 + p2 + p3 + p4 + p5 + p6 + p7) + 128 * (2 * ((p1 + p2 + p3 + p4) + 256 * ((p2 + p3 + p4 + p5) + 256 * ((p3 + p4 + p5 + p6) + 256 * ((p4 + p5 + p6 + p7) + 256 * ((p5 + p6 + p7) + 256 * ((p6 + p7) + 256 * p7))))) + ((p5 + p6 + p7) + 256 * ((p6 + p7) + 256 * p7)))) := by omega
  refine ⟨?_, by omega, by omega, by omega⟩
  clear ha' hb' hq hcc
  generalize 2 * ((p1 + p2 + p3 + p4) + 256 * ((p2 + p3 + p4 + p5) + 256 * ((p3 + p4 + p5 + p6) + 256 * ((p4 + p5 + p6 + p7) + 256 * ((p5 + p6 + p7) + 256 * ((p6 + p7) + 256 * p7))))) + ((p5 + p6 + p7) + 256 * ((p6 + p7) + 256 * p7))) = R at h2
  omega
end Go.Proofs.YtocgdibadcmnfaaDoor
