/- Package words, numbers: Digits, natural, decimal, Int, capped, before: what each returns, in every world that bears what the library's tables hold. -/
import Derived.Test.YtgldpdbdgjehkaaGreatDoorBytes
import Derived.Test.YtgldpdbdgjehkaaGreatDoorShelf
import Derived.Lib.SmallJoins
import Derived.Lib.AppendIntMem
import Derived.Deep.DeepFit
namespace Go.Proofs.YtgldpdbdgjehkaaGreatDoor
open Go.RowKit

/-- What every walk needs of the world: the library's package-level variables. -/
structure Env (w : World) : Prop where
  size : 9 ≤ w.heap.size
  maxlen : ∃ m, w.cell? ⟨1, 0, none⟩ = some (.int .i64 m)
  pow10 : Lib.TabIs Tryz.prog w "internal/strconv.uint64pow10" .u64 Lib.pow10Tab
  errRange : ∃ tp p, w.var? Tryz.prog "strconv.ErrRange" = some #[.iface tp p]
theorem Env.below {w w' : World} (h : Env w) (hb : Below w.heap.size w w') : Env w' := by
  have hs := h.size
  refine ⟨Nat.le_trans hs hb.size, ?_, ?_, ?_⟩
  · obtain ⟨m, hm⟩ := h.maxlen
    exact ⟨m, by rw [hb.cell (by show 1 < w.heap.size; omega)]; exact hm⟩
  · exact var?_below hb (g := 4) (by kernel_rfl) (by omega) h.pow10
  · obtain ⟨tp, p, he⟩ := h.errRange
    exact ⟨tp, p, var?_below hb (g := 3) (by kernel_rfl) (by omega) he⟩
theorem Env.drew {w : World} (h : Env w) : Env w.drew := h.below ((Below.refl _ _).drew)
theorem Env.alloc {w : World} (h : Env w) (o : Obj) : Env (w.alloc o) := h.below ((Below.refl _ _).alloc (Nat.le_refl _) o)

theorem digits_any (n : Int) (h0 : -9223372036854775808 ≤ n) (h1 : n ≤ 9223372036854775807) (w : World) (he : Env w) :
    Calls Tryz.prog 21 #[.int .i64 n] w fun e w' => e = .returned (.string ⟨(Lib.itoa n).toArray⟩) ∧ Below w.heap.size w w' := by
  have c := Tryz.strconv_FormatInt_10 n h0 h1 w he.pow10
  have C := Lib.hid c; clear c h0 h1
  have HE := Lib.hid he; clear he
  go_enter Tryz.func21, Tryz.ntmps21
  go_wp2_with (go_at_call 53; refine (C.out).mono ?_; rintro e w' ⟨rfl, k, os, rfl⟩)
  go_ret
  exact ⟨rfl, Lib.below_grow _ _ (Nat.le_refl _) _ _⟩

/-- a is shorter than b, or as long and before it. -/
def beforeB (a b : List UInt8) : Bool := decide (a.length < b.length) || (a.length == b.length && Op.bytesLess a b)
theorem before_any (a b : ByteArray) (w : World) : Calls Tryz.prog 79 #[.string a, .string b] w fun e w' => e = .returned (.bool (beforeB a.data.toList b.data.toList)) ∧ w = w' := by
  by_cases h1 : a.size < b.size
  · go_enter Tryz.func79, Tryz.ntmps79
    go_wp2
    go_ret
    exact ⟨ret_bool (by simp [beforeB, h1]), rfl⟩
  · by_cases h2 : a.size = b.size
    · have h1' : decide ((a.size : Int) < b.size) = false := by simp; omega
      have h2' : ((a.size : Int) == b.size) = true := by simp [h2]
      have H2 := Lib.hid h2; clear h2
      go_enter Tryz.func79, Tryz.ntmps79
      go_wp2
      go_ret
      exact ⟨ret_bool (by simp [beforeB, h1, H2.out, Lib.toList_data]), rfl⟩
    · have h1' : decide ((a.size : Int) < b.size) = false := by simp; omega
      have h2' : ((a.size : Int) == b.size) = false := by simp; omega
      go_enter Tryz.func79, Tryz.ntmps79
      go_wp2
      go_ret
      exact ⟨ret_bool (by simp [beforeB, h1, h2]), rfl⟩

/-- The decimal form of a number that is not negative. -/
def natB : List UInt8 → Bool
  | [] => false
  | c :: r => (r.isEmpty || c != 48) && allP isDigit (c :: r)
theorem digitAll (s : ByteArray) (w : World) (hs : s.size ≤ maxLen) : Calls Tryz.prog 45 #[.string s, .func (.func 72) #[] #[]] w fun e w' => e = .returned (.bool (allP isDigit s.data.toList)) ∧ w = w' :=
  all_any 72 isDigit (fun _ _ => by kernel_rfl) digit_any s w hs
theorem ne48 (x : UInt8) (h : ¬ x = 48) : ((x.toNat : Int) != 48) = true := by
  rw [bne_iff_ne]; intro e; exact h (UInt8.toNat_inj.1 (by show x.toNat = 48; omega))
theorem natural_any (s : ByteArray) (w : World) (hs : s.size ≤ maxLen) : Calls Tryz.prog 74 #[.string s] w fun e w' => e = .returned (.bool (natB s.data.toList)) ∧ w = w' := by
  have c := digitAll s w hs
  obtain ⟨⟨l⟩⟩ := s
  have C := Lib.hid c; clear c
  rcases l with _ | ⟨x, _ | ⟨y, r⟩⟩
  · go_enter Tryz.func74, Tryz.ntmps74
    go_wp2_with (go_at_call 45; refine C.out.mono ?_; rintro e w' ⟨rfl, rfl⟩)
    go_ret
    exact ⟨rfl, rfl⟩
  · by_cases hx : x = 48
    · subst hx
      go_enter Tryz.func74, Tryz.ntmps74
      go_wp2_with (go_at_call 45; refine C.out.mono ?_; rintro e w' ⟨rfl, rfl⟩)
      go_ret
      exact ⟨rfl, rfl⟩
    · have hb : (x == 48) = false := by simpa using hx
      have h0 : (((({ data := { toList := [x] } } : ByteArray)[0]'(Nat.zero_lt_succ _)).toNat : Int) != 48) = true := ne48 _ hx
      have HX := Lib.hid hx; clear hx
      go_enter Tryz.func74, Tryz.ntmps74
      go_wp2_with (go_at_call 45; refine C.out.mono ?_; rintro e w' ⟨rfl, rfl⟩)
      go_ret
      exact ⟨rfl, rfl⟩
  · by_cases hx : x = 48
    · subst hx
      have h0 : (((({ data := { toList := 48 :: y :: r } } : ByteArray)[0]'(Nat.zero_lt_succ _)).toNat : Int) != 48) = false := rfl
      have hl : (0 : Int) < ↑r.length + 1 + 1 := by omega
      go_enter Tryz.func74, Tryz.ntmps74
      go_wp2_with (go_at_call 45; refine C.out.mono ?_; rintro e w' ⟨rfl, rfl⟩)
      go_ret
      exact ⟨rfl, rfl⟩
    · have h0 : (((({ data := { toList := x :: y :: r } } : ByteArray)[0]'(Nat.zero_lt_succ _)).toNat : Int) != 48) = true := ne48 _ hx
      have hn : natB (x :: y :: r) = allP isDigit (x :: y :: r) := by simp [natB, hx]
      have hl : (0 : Int) < ↑r.length + 1 + 1 := by omega
      have HN := Lib.hid hn; clear hn hx
      go_enter Tryz.func74, Tryz.ntmps74
      go_wp2_with (go_at_call 45; refine C.out.mono ?_; rintro e w' ⟨rfl, rfl⟩)
      go_ret
      exact ⟨ret_bool HN.out.symm, rfl⟩
end Go.Proofs.YtgldpdbdgjehkaaGreatDoor
