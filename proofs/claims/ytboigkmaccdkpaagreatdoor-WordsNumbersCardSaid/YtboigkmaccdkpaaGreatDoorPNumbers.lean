/- WordsNumbers (P1.2, P1.8): for every number and every string with every two bounds, Digits and Int of the program answer as those of the reference, Int of the digits of a number is the number, and the calls of 'shown' return what is said of them: the law returns true. No condition but what the row itself lists. -/
import Derived.Test.YtboigkmaccdkpaaGreatDoorWNumbers
import Derived.Test.YtboigkmaccdkpaaGreatDoorLaid
import Derived.Lib.SmallJoins
namespace Go.Proofs.YtboigkmaccdkpaaGreatDoor.wordsNumbers
open Go.ChangeShapes Go.WideShapes Go.ChangeAt Go.RowKit
open Go.ChangeMaps (open_string shut_string)

theorem ends_reads {H : Type} (enc : TypeId × Value → H) (w : World) (s : ByteArray) (mn mx : Int) (ws : s.size ≤ maxLen) (wmn : (Lit.int IntKind.i64 mn).wf = true) (wmx : (Lit.int IntKind.i64 mx).wf = true) (base : Nat) (sp : Nat → Bool) (held : Bool) :
    DataW.Trod enc Tryz.prog w base sp held 25 (.agg #[.string s, .int .i64 mn, .int .i64 mx]) (.agg [.lit (.string s.data.toList), .lit (.int .i64 mn), .lit (.int .i64 mx)]) [] :=
  Joins.shut_agg3 (enc := enc) (w := w) (base := base) (spare := sp) (held := held) (y0 := (.lit (.string s.data.toList), [])) (y1 := (.lit (.int .i64 mn), [])) (y2 := (.lit (.int .i64 mx), [])) Tryz.underlying25 (by kernel_rfl) (by kernel_rfl)
    (show ∃ n, DataW.trod enc Tryz.prog w base sp held n 9 [.string s] = some _ from shut_string Tryz.underlying9 ws)
    (show ∃ n, DataW.trod enc Tryz.prog w base sp held n 2 [.int .i64 mn] = some _ from shut_int Tryz.underlying2 wmn)
    (show ∃ n, DataW.trod enc Tryz.prog w base sp held n 2 [.int .i64 mx] = some _ from shut_int Tryz.underlying2 wmx)
set_option maxRecDepth 100000 in
theorem contract (H : Type) (enc : TypeId × Value → H) (W : World) (base : Nat) (args : Array Value) (ds gs : List (DataW H)) (before : List MemPlace)
    (hval : ∀ (j : Nat) t v, Tryz.f4.params[j]? = some t → args[j]? = some v → Value.okWide Tryz.prog W .any base t v)
    (hW : DataW.Whole enc Tryz.prog Tryz.f4.params.toList Rows.wordsNumbersSpec.vars false W args.toList ds gs before) (hL : laidMetH Tryz.prog Rows.wordsNumbersRow.laid W) (hsh : W.ShapedOpen Tryz.prog) :
    Calls Tryz.prog 4 args W fun e W' => ∃ v, e = .returned v ∧ Rows.wordsNumbersSpec.post enc Tryz.prog Tryz.f4 false true false false W args v W' := by
  have hW' := hW
  obtain ⟨p, q, hA0, hV, rfl, hfz, hnd⟩ := hW
  have hA : DataW.TrodAll enc Tryz.prog W 0 (fun _ => true) true Tryz.f4.params.toList args.toList ds p := hA0
  rw [Tryz.params4] at hA hval
  obtain ⟨v0, v1, d0, d1, p0, p1, rfl, rfl, rfl, h0, h1⟩ := trodAll_two hA
  obtain ⟨rfl, rfl⟩ := trodVars_none hV
  obtain ⟨n, rfl, rfl, rfl, hwn⟩ := open_int Tryz.underlying2 (hval 0 2 v0 rfl rfl) h0
  obtain ⟨c0, c1, c2, y0, y1, y2, m, rfl, rfl, rfl, hy0, hy1, hy2⟩ := Joins.open_agg3 Tryz.underlying25 (by kernel_rfl) (by kernel_rfl) (hval 1 25 v1 rfl rfl) h1
  obtain ⟨s, e0, rfl, ws⟩ := DataW.trod_string Tryz.underlying9 hy0
  obtain ⟨mn, e1, rfl, wmn⟩ := DataW.trod_int Tryz.underlying2 hy1
  obtain ⟨mx, e2, rfl, wmx⟩ := DataW.trod_int Tryz.underlying2 hy2
  simp at e0 e1 e2
  subst e0 e1 e2
  clear hA0
  simp only [List.append_nil] at hW'
  have hE : Env W := env_of (r := []) (by rw [List.append_nil]; exact hL) hsh
  have hn : -9223372036854775808 ≤ n ∧ n ≤ 9223372036854775807 := by simpa [Lit.wf, IntKind.min, IntKind.max, IntKind.signed, IntKind.bits] using hwn
  have e1 : Rows.wordsNumbersSpec.fn H ([.lit (.int .i64 n), .agg [.lit (.string s.data.toList), .lit (.int .i64 mn), .lit (.int .i64 mx)]] ++ []) = { results := [.lit (.bool true)], args := [.lit (.int .i64 n), .agg [.lit (.string s.data.toList), .lit (.int .i64 mn), .lit (.int .i64 mx)]] } := rfl
  refine (numbers_walk n mn mx s W hE ws hn.1 hn.2).mono fun e W' ⟨he, hb⟩ => ?_
  subst he
  refine ⟨_, rfl, _, _, _, [], [], [], hW', ?_, ?_, ?_, hb.frame _, fun h => by cases h⟩
  · rw [e1]; exact trodAll_mk1 (shut_bool Tryz.underlying4 _)
  · rw [e1]
    exact trodAll_mk2 (p := []) (p' := []) (shut_int Tryz.underlying2 hwn) (ends_reads enc W' s mn mx ws wmn wmx _ _ _)
  · rw [e1]; rfl

theorem witness_row (os : Os) {H : Type} (enc : TypeId × Value → H) :
    (OpenSpec.ofChange Rows.wordsNumbersSpec).preRow enc Tryz.prog Tryz.f4 Rows.wordsNumbersRow.domain false Rows.wordsNumbersRow.laid ((laidWorld os).forCall (fun _ _ => 0) ⟨#[], #[.int .i64 0, .agg #[.string ⟨#[]⟩, .int .i64 0, .int .i64 0]], []⟩).memory #[.int .i64 0, .agg #[.string ⟨#[]⟩, .int .i64 0, .int .i64 0]] := by
  have hw : (DataW.whole enc Tryz.prog ((laidWorld os).forCall (fun _ _ => 0) ⟨#[], #[.int .i64 0, .agg #[.string ⟨#[]⟩, .int .i64 0, .int .i64 0]], []⟩).memory Tryz.f4.params.toList Rows.wordsNumbersSpec.vars false #[Value.int .i64 0, .agg #[.string ⟨#[]⟩, .int .i64 0, .int .i64 0]].toList 8).map (fun x => (x.1, x.2.1)) =
      some ([.lit (.int .i64 0), .agg [.lit (.string []), .lit (.int .i64 0), .lit (.int .i64 0)]], []) := by kernel_rfl
  obtain ⟨⟨x1, x2, x3⟩, hx, hx1⟩ := Option.map_eq_some_iff.1 hw
  simp only [Prod.mk.injEq] at hx1
  obtain ⟨rfl, rfl⟩ := hx1
  exact OpenSpec.preRow_of_cond 8 hx (by kernel_rfl) (fun k hk => by cases hk) (by kernel_rfl) (laid_met os _)

set_option maxRecDepth 100000 in
theorem lifted (os : Os) (started : os.Started) (H : Type) (enc : TypeId × Value → H) (F : Stop.Interp) :
    ReturnsInHanded {} Tryz.checked os 4 .any ((OpenSpec.ofChange Rows.wordsNumbersSpec).preRow enc Tryz.prog Tryz.f4 Rows.wordsNumbersRow.domain false Rows.wordsNumbersRow.laid) (((OpenSpec.ofChange Rows.wordsNumbersSpec).at F).post enc Tryz.prog Tryz.f4 false true false false) := by
  refine returnsInHanded_of_row (C := Tryz.checked) (s := OpenSpec.ofChange Rows.wordsNumbersSpec) own started (by kernel_rfl) Tryz.func4
    (witness_row_atRef (enc := enc) (C := Tryz.checked) false (laidWorld os) #[.int .i64 0, .agg #[.string ⟨#[]⟩, .int .i64 0, .int .i64 0]] rfl (by kernel_rfl) (by kernel_rfl) (by kernel_rfl) (witness_row os enc)) ?_
  intro W base args ds gs before hval hW _ _ _ hL hsh _
  exact contract H enc W base args ds gs before hval hW hL hsh

theorem said : Rows.WordsNumbersSaid :=
  OpenClaim.holds_of_cond 4 Tryz.f4 rfl rfl rfl rfl rfl rfl rfl ⟨rfl, rfl, rfl, rfl, rfl⟩ rfl rfl rfl rfl rfl (by kernel_rfl) Tryz.func4 (by kernel_rfl)
    (of_decide_eq_true (by kernel_rfl)) (by unfold Func.isWrapper; first | (rw [if_pos (by decide +kernel)]; kernel_rfl) | (rw [if_neg (by decide +kernel)]; exact ⟨rfl, rfl⟩))
    (fun os started H enc _ F => by rw [OpenClaim.pre_eq_preRow]; exact lifted os started H enc F)

theorem plain (f : FuncId) (fn : Func) (hf : Tryz.pinned.checked.prog.funcNamed "polder/polderlaw01.WordsNumbers" = some f) (hfn : Tryz.pinned.checked.prog.funcs[f]? = some fn) :
    true = Tryz.pinned.checked.prog.looks [] ∧ ∀ (j : Nat) t, fn.params[j]? = some t → Tryz.pinned.checked.prog.wantsStandIn t = false := by
  obtain rfl : f = 4 := Option.some.inj ((show Tryz.prog.funcNamed "polder/polderlaw01.WordsNumbers" = some 4 by kernel_rfl).symm.trans hf) |>.symm
  obtain rfl : fn = Tryz.f4 := (Option.some.inj (Tryz.func4.symm.trans hfn)).symm
  refine ⟨by kernel_rfl, fun j t ht => ?_⟩
  rw [Tryz.params4] at ht
  have h := Array.mem_of_getElem? ht
  simp only [List.mem_toArray, List.mem_cons, List.not_mem_nil, or_false] at h
  rcases h with rfl | rfl
  · exact (show Tryz.prog.wantsStandIn 2 = false by kernel_rfl)
  · exact (show Tryz.prog.wantsStandIn 25 = false by kernel_rfl)

theorem card : Rows.WordsNumbersCardSaid :=
  Claim7.holds_tied_plain_at .later [] _ _ _ _ said (fun _ h => by cases h) (by kernel_rfl) (fun _ h => by cases h) wordsNumbers_row_tie rfl ⟨rfl, rfl⟩ (by kernel_rfl) rfl plain (by kernel_rfl)
end Go.Proofs.YtboigkmaccdkpaaGreatDoor.wordsNumbers
