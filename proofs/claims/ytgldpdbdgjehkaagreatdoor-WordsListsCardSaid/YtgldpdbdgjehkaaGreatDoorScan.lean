/- Where the first space outside of double quotes stands: found rune by rune, as found byte by byte. The closure of cutField, strings.IndexFunc over it, cutField. -/
import Derived.Test.YtgldpdbdgjehkaaGreatDoorQuotes
import Derived.Lib.OthersKept
import Derived.OneCell
import Derived.Laws.RangeAny
import Derived.LoopTactic
import Derived.Deep.LoopGhost
namespace Go.Proofs.YtgldpdbdgjehkaaGreatDoor
open Go.RowKit

/-- The place of the first space outside of double quotes; -1 if there is none. -/
def scanL : List UInt8 → Bool → Nat → Int
  | [], _, _ => -1
  | c :: l, b, i => if c = 32 ∧ b = false then i else scanL l (if c = 34 then !b else b) (i + 1)
theorem drop_at (s : ByteArray) (p : Nat) (h : p < s.size) : s.data.toList.drop p = s[p] :: s.data.toList.drop (p + 1) := by
  rw [List.drop_eq_getElem_cons (by rw [size_list]; exact h)]; rfl
theorem scan_high (s : ByteArray) (b : Bool) : ∀ (K p : Nat), (∀ j, j < K → ∃ h : p + j < s.size, 128 ≤ (s[p + j]'h).toNat) → scanL (s.data.toList.drop p) b p = scanL (s.data.toList.drop (p + K)) b (p + K) := by
  intro K
  induction K with
  | zero => intro p _; rfl
  | succ K ih =>
    intro p h
    obtain ⟨h0, h1⟩ := h 0 (by omega)
    have hp : p < s.size := h0
    have h1' : 128 ≤ s[p].toNat := h1
    rw [drop_at s p hp, scanL]
    have n32 : ¬ s[p] = 32 := fun e => by rw [e] at h1'; exact absurd h1' (by decide)
    have n34 : ¬ s[p] = 34 := fun e => by rw [e] at h1'; exact absurd h1' (by decide)
    rw [if_neg (fun e => n32 e.1), if_neg n34, ih (p + 1) (fun j hj => by
      obtain ⟨a, c⟩ := h (j + 1) (by omega)
      have e : p + (j + 1) = p + 1 + j := by omega
      exact ⟨by omega, by simpa only [e] using c⟩), show p + 1 + K = p + (K + 1) by omega]
theorem get!_eq (s : ByteArray) (i : Nat) (h : i < s.size) : s.get! i = s[i] := by
  obtain ⟨⟨l⟩⟩ := s
  show (⟨l⟩ : Array UInt8)[i]! = _
  rw [getElem!_pos]; rfl
theorem decode_span (s : ByteArray) (p : Nat) (h : p < s.size) (hh : 128 ≤ s[p].toNat) : ∀ j, j < (Utf8.decode s p).2 → ∃ h : p + j < s.size, 128 ≤ (s[p + j]'h).toNat := by
  have key : ∀ j, 1 ≤ j → (p + j < s.size ∧ (s.get! (p + j)).toNat / 64 = 2) → ∃ h : p + j < s.size, 128 ≤ (s[p + j]'h).toNat := by
    intro j _ ⟨h1, h2⟩
    refine ⟨h1, ?_⟩
    rw [get!_eq s _ h1] at h2; omega
  have zero : ∃ h : p + 0 < s.size, 128 ≤ (s[p + 0]'h).toNat := ⟨h, hh⟩
  intro j hj
  simp only [Utf8.decode, Bool.and_eq_true, decide_eq_true_eq, beq_iff_eq] at hj
  rcases j with _ | j
  · exact zero
  · have one : ∀ c, (Utf8.runeError, 1) = c → j + 1 < c.2 → False := by intro c e; subst e; simp
    split at hj
    · simp at hj
    · split at hj
      · rename_i hc
        split at hj
        · have : j = 0 := by simp at hj; omega
          subst this; exact key 1 (by omega) hc.2
        · simp at hj
      · split at hj
        · rename_i hc
          split at hj
          · simp at hj
            obtain rfl | rfl : j = 0 ∨ j = 1 := by omega
            · exact key 1 (by omega) hc.1.2
            · exact key 2 (by omega) hc.2
          · simp at hj
        · split at hj
          · rename_i hc
            split at hj
            · simp at hj
              obtain rfl | rfl | rfl : j = 0 ∨ j = 1 ∨ j = 2 := by omega
              · exact key 1 (by omega) hc.1.1.2
              · exact key 2 (by omega) hc.1.2
              · exact key 3 (by omega) hc.2
            · simp at hj
          · simp at hj
/-- One rune further. -/
theorem scan_rune (s : ByteArray) (p : Nat) (b : Bool) (h : p < s.size) :
    scanL (s.data.toList.drop p) b p = if ((Utf8.decode s p).1 : Int) = 32 ∧ b = false then (p : Int) else scanL (s.data.toList.drop (p + (Utf8.decode s p).2)) (if ((Utf8.decode s p).1 : Int) = 34 then !b else b) (p + (Utf8.decode s p).2) := by
  by_cases ha : s[p].toNat < 128
  · rw [decode_ascii s p h ha, drop_at s p h, scanL]
    have e32 : s[p] = 32 ↔ ((s[p].toNat : Nat) : Int) = 32 := ⟨fun e => by rw [e]; rfl, fun e => UInt8.toNat_inj.1 (by show s[p].toNat = 32; omega)⟩
    have e34 : s[p] = 34 ↔ ((s[p].toNat : Nat) : Int) = 34 := ⟨fun e => by rw [e]; rfl, fun e => UInt8.toNat_inj.1 (by show s[p].toNat = 34; omega)⟩
    simp only [e32, e34]
  · have hd := decode_high s p h (by omega)
    rw [if_neg (by intro e; omega), if_neg (by omega)]
    exact scan_high s b _ p (decode_span s p h (by omega))

/-- Only block B has turned. -/
structure Only (B : Nat) (w w' : World) : Prop where
  os : w'.os = w.os
  tape : w'.tape = w.tape
  output : w'.output = w.output
  size : w'.heap.size = w.heap.size
  block : ∀ k, k ≠ B → w'.heap[k]? = w.heap[k]?
theorem Only.refl (B : Nat) (w : World) : Only B w w := ⟨rfl, rfl, rfl, rfl, fun _ _ => rfl⟩
theorem Only.setCell (B : Nat) (w : World) (u : Value) : Only B w (w.setCell ⟨B, 0, none⟩ u) :=
  ⟨rfl, rfl, rfl, by simp [World.setCell], fun k hk => Below.heap_setCell _ _ _ _ hk⟩
theorem Only.below {B C : Nat} {w w' : World} (h : Only B w w') (hC : C ≤ B) : Below C w w' := ⟨h.os, h.tape, h.output, by rw [h.size]; exact Nat.le_refl _, fun k hk => h.block k (by omega)⟩

theorem quoteFn (c : Int) (B : Nat) (b : Bool) (W : World) (hB : W.heap[B]? = some (.cells #[.bool b] 4 (0, 0))) :
    Calls Tryz.prog 87 #[.int .i32 c, .pointer (some ⟨B, 0, none⟩)] W fun e w' =>
      e = .returned (.bool (c == 32 && !(if c = 34 then !b else b))) ∧ w'.heap[B]? = some (.cells #[.bool (if c = 34 then !b else b)] 4 (0, 0)) ∧ Only B W w' := by
  have hc := cell_of_one hB
  have hf := free_of_one hB
  have HB := Lib.hid hB; clear hB
  by_cases h34 : c = 34
  · subst h34
    have h1 := one_setCell (u := .bool !b) HB.out
    have H1 := Lib.hid h1; clear h1
    go_enter Tryz.func87, Tryz.ntmps87
    go_wp2_with fail
    go_ret
    exact ⟨rfl, H1.out, Only.setCell _ _ _⟩
  · have e34 : (c == 34) = false := by simpa using h34
    rw [if_neg h34]
    have H34 := Lib.hid h34; clear h34
    by_cases h32 : c = 32
    · subst h32
      go_enter Tryz.func87, Tryz.ntmps87
      go_wp2_with fail
      go_ret
      exact ⟨by simp, HB.out, Only.refl _ _⟩
    · have e32 : (c == 32) = false := by simpa using h32
      clear h32
      go_enter Tryz.func87, Tryz.ntmps87
      go_wp2_with fail
      go_ret
      exact ⟨by simp [e32], HB.out, Only.refl _ _⟩
end Go.Proofs.YtgldpdbdgjehkaaGreatDoor
