/-
  DERIVED. GIVEN WITH THE SEED: THE PROGRAM's TIES (one call each: nine closed facts by the kernel) AND EACH ROW's TIE, after the 31st guide's Derived/Test/Toyas{Tie, Card}.lean. No idea stands in it: it is a product of the set-up. Laid BY PROGRAM, IN A SANDBOX (cutbox-door.mjs). By AI agents, Wed Nov 11 2026. No macro, syntax, notation, axiom, sorry.
-/
import Derived.Test.YthlilfdndpnbkaaGreatDoorRows
import Derived.LaidByTextLater
import Derived.SevenTiedAt
import Derived.LaidSub
import Derived.LaidOnce
namespace Go.Proofs.YthlilfdndpnbkaaGreatDoor
open Go
set_option maxRecDepth 100000
theorem seatTie1 : Tryz.prog.laidByTextLater [("math/bits.deBruijn32tab", Rows.laid_math_bits_deBruijn32tab), ("math/bits.deBruijn64tab", Rows.laid_math_bits_deBruijn64tab), ("internal/strconv.uint64pow10", Rows.laid_internal_strconv_uint64pow10), ("unicode/utf8.acceptRanges", Rows.laid_unicode_utf8_acceptRanges), ("errors.errorType", Rows.laid_errors_errorType), ("strconv.ErrRange", Rows.laid_strconv_ErrRange), ("strconv.ErrSyntax", Rows.laid_strconv_ErrSyntax), ("loop.example/g01030/impl.errNoPhrase", Rows.laid_loop_example_g01030_impl_errNoPhrase), ("loop.example/g01030/impl.errNoLanguage", Rows.laid_loop_example_g01030_impl_errNoLanguage), ("loop.example/g01030/impl.errNoStatus", Rows.laid_loop_example_g01030_impl_errNoStatus), ("loop.example/g01030/impl.errNoSpan", Rows.laid_loop_example_g01030_impl_errNoSpan), ("loop.example/g01030/impl.errNoYear", Rows.laid_loop_example_g01030_impl_errNoYear), ("loop.example/g01030/impl.errNoParts", Rows.laid_loop_example_g01030_impl_errNoParts), ("loop.example/g01030/impl.errNoName", Rows.laid_loop_example_g01030_impl_errNoName), ("loop.example/g01030/impl.errNamesMeet", Rows.laid_loop_example_g01030_impl_errNamesMeet), ("loop.example/g01030/impl.errManyNames", Rows.laid_loop_example_g01030_impl_errManyNames)] [.data, .data, .data, .data, .handle, .sentinel, .sentinel, .sentinel, .sentinel, .sentinel, .sentinel, .sentinel, .sentinel, .sentinel, .sentinel, .sentinel] true :=
  Program.laidByTextLater_by_one 250 8 65 (by kernel_rfl) (by kernel_rfl) (by kernel_rfl) (by kernel_rfl) (by kernel_rfl) (by kernel_rfl) (fun _ _ => by kernel_rfl)
theorem pin_laid_unicode_utf8_first : Tryz.pinned.checked.prog.pinnedFits "unicode/utf8.first" = true := by kernel_rfl
theorem noOwnUnsafe : Tryz.pinned.checked.prog.headLifts.contains "ownunsafe" = false := by kernel_rfl
theorem fits1 : Tryz.pinned.checked.prog.listedFits [("math/bits.deBruijn32tab", Rows.laid_math_bits_deBruijn32tab), ("math/bits.deBruijn64tab", Rows.laid_math_bits_deBruijn64tab), ("internal/strconv.uint64pow10", Rows.laid_internal_strconv_uint64pow10), ("unicode/utf8.acceptRanges", Rows.laid_unicode_utf8_acceptRanges), ("errors.errorType", Rows.laid_errors_errorType), ("strconv.ErrRange", Rows.laid_strconv_ErrRange), ("strconv.ErrSyntax", Rows.laid_strconv_ErrSyntax), ("loop.example/g01030/impl.errNoPhrase", Rows.laid_loop_example_g01030_impl_errNoPhrase), ("loop.example/g01030/impl.errNoLanguage", Rows.laid_loop_example_g01030_impl_errNoLanguage), ("loop.example/g01030/impl.errNoStatus", Rows.laid_loop_example_g01030_impl_errNoStatus), ("loop.example/g01030/impl.errNoSpan", Rows.laid_loop_example_g01030_impl_errNoSpan), ("loop.example/g01030/impl.errNoParts", Rows.laid_loop_example_g01030_impl_errNoParts), ("unicode/utf8.first", Rows.laid_unicode_utf8_first)] = true := by
  unfold Program.listedFits
  rw [noOwnUnsafe]
  kernel_rfl
theorem tie : Tryz.prog.laidByTextLater [("math/bits.deBruijn32tab", Rows.laid_math_bits_deBruijn32tab), ("math/bits.deBruijn64tab", Rows.laid_math_bits_deBruijn64tab), ("internal/strconv.uint64pow10", Rows.laid_internal_strconv_uint64pow10), ("unicode/utf8.acceptRanges", Rows.laid_unicode_utf8_acceptRanges), ("errors.errorType", Rows.laid_errors_errorType), ("strconv.ErrRange", Rows.laid_strconv_ErrRange), ("strconv.ErrSyntax", Rows.laid_strconv_ErrSyntax), ("loop.example/g01030/impl.errNoPhrase", Rows.laid_loop_example_g01030_impl_errNoPhrase), ("loop.example/g01030/impl.errNoLanguage", Rows.laid_loop_example_g01030_impl_errNoLanguage), ("loop.example/g01030/impl.errNoStatus", Rows.laid_loop_example_g01030_impl_errNoStatus), ("loop.example/g01030/impl.errNoSpan", Rows.laid_loop_example_g01030_impl_errNoSpan), ("loop.example/g01030/impl.errNoParts", Rows.laid_loop_example_g01030_impl_errNoParts)] [.data, .data, .data, .data, .handle, .sentinel, .sentinel, .sentinel, .sentinel, .sentinel, .sentinel, .sentinel] true :=
  Program.laidByTextLater.sub seatTie1 ["math/bits.deBruijn32tab", "math/bits.deBruijn64tab", "internal/strconv.uint64pow10", "unicode/utf8.acceptRanges", "errors.errorType", "strconv.ErrRange", "strconv.ErrSyntax", "loop.example/g01030/impl.errNoPhrase", "loop.example/g01030/impl.errNoLanguage", "loop.example/g01030/impl.errNoStatus", "loop.example/g01030/impl.errNoSpan", "loop.example/g01030/impl.errNoParts"] (by kernel_rfl) (by kernel_rfl)
theorem fnNameTexts_row_tie : Rows.fnNameTextsRow.laidByTextAt .later Tryz.pinned [.data, .data, .data, .data, .handle, .sentinel, .sentinel, .sentinel, .sentinel, .sentinel, .sentinel, .sentinel, .pinned] true :=
  OpenClaim.laidByTextAt_pinned rfl rfl tie rfl rfl rfl rfl (fun y hy _e => by
    simp only [Rows.fnNameTextsRow, List.zip_cons_cons, List.zip_nil_right, List.mem_cons, List.mem_nil_iff, or_false] at hy
    rcases hy with rfl | rfl | rfl | rfl | rfl | rfl | rfl | rfl | rfl | rfl | rfl | rfl | rfl
    · cases _e
    · cases _e
    · cases _e
    · cases _e
    · cases _e
    · cases _e
    · cases _e
    · cases _e
    · cases _e
    · cases _e
    · cases _e
    · cases _e
    · exact ⟨pin_laid_unicode_utf8_first, by kernel_rfl⟩) fits1
theorem fits2 : Tryz.pinned.checked.prog.listedFits [("unicode/utf8.acceptRanges", Rows.laid_unicode_utf8_acceptRanges), ("errors.errorType", Rows.laid_errors_errorType), ("loop.example/g01030/impl.errNoPhrase", Rows.laid_loop_example_g01030_impl_errNoPhrase), ("loop.example/g01030/impl.errNoLanguage", Rows.laid_loop_example_g01030_impl_errNoLanguage), ("loop.example/g01030/impl.errNoStatus", Rows.laid_loop_example_g01030_impl_errNoStatus), ("loop.example/g01030/impl.errNoSpan", Rows.laid_loop_example_g01030_impl_errNoSpan), ("loop.example/g01030/impl.errNoYear", Rows.laid_loop_example_g01030_impl_errNoYear), ("loop.example/g01030/impl.errNoName", Rows.laid_loop_example_g01030_impl_errNoName), ("loop.example/g01030/impl.errNamesMeet", Rows.laid_loop_example_g01030_impl_errNamesMeet), ("loop.example/g01030/impl.errManyNames", Rows.laid_loop_example_g01030_impl_errManyNames), ("unicode/utf8.first", Rows.laid_unicode_utf8_first)] = true := by
  unfold Program.listedFits
  rw [noOwnUnsafe]
  kernel_rfl
theorem tie2 : Tryz.prog.laidByTextLater [("unicode/utf8.acceptRanges", Rows.laid_unicode_utf8_acceptRanges), ("errors.errorType", Rows.laid_errors_errorType), ("loop.example/g01030/impl.errNoPhrase", Rows.laid_loop_example_g01030_impl_errNoPhrase), ("loop.example/g01030/impl.errNoLanguage", Rows.laid_loop_example_g01030_impl_errNoLanguage), ("loop.example/g01030/impl.errNoStatus", Rows.laid_loop_example_g01030_impl_errNoStatus), ("loop.example/g01030/impl.errNoSpan", Rows.laid_loop_example_g01030_impl_errNoSpan), ("loop.example/g01030/impl.errNoYear", Rows.laid_loop_example_g01030_impl_errNoYear), ("loop.example/g01030/impl.errNoName", Rows.laid_loop_example_g01030_impl_errNoName), ("loop.example/g01030/impl.errNamesMeet", Rows.laid_loop_example_g01030_impl_errNamesMeet), ("loop.example/g01030/impl.errManyNames", Rows.laid_loop_example_g01030_impl_errManyNames)] [.data, .handle, .sentinel, .sentinel, .sentinel, .sentinel, .sentinel, .sentinel, .sentinel, .sentinel] true :=
  Program.laidByTextLater.sub seatTie1 ["unicode/utf8.acceptRanges", "errors.errorType", "loop.example/g01030/impl.errNoPhrase", "loop.example/g01030/impl.errNoLanguage", "loop.example/g01030/impl.errNoStatus", "loop.example/g01030/impl.errNoSpan", "loop.example/g01030/impl.errNoYear", "loop.example/g01030/impl.errNoName", "loop.example/g01030/impl.errNamesMeet", "loop.example/g01030/impl.errManyNames"] (by kernel_rfl) (by kernel_rfl)
theorem fnNames_row_tie : Rows.fnNamesRow.laidByTextAt .later Tryz.pinned [.data, .handle, .sentinel, .sentinel, .sentinel, .sentinel, .sentinel, .sentinel, .sentinel, .sentinel, .pinned] true :=
  OpenClaim.laidByTextAt_pinned rfl rfl tie2 rfl rfl rfl rfl (fun y hy _e => by
    simp only [Rows.fnNamesRow, List.zip_cons_cons, List.zip_nil_right, List.mem_cons, List.mem_nil_iff, or_false] at hy
    rcases hy with rfl | rfl | rfl | rfl | rfl | rfl | rfl | rfl | rfl | rfl | rfl
    · cases _e
    · cases _e
    · cases _e
    · cases _e
    · cases _e
    · cases _e
    · cases _e
    · cases _e
    · cases _e
    · cases _e
    · exact ⟨pin_laid_unicode_utf8_first, by kernel_rfl⟩) fits2
theorem fnOfficialYears_row_tie : Rows.fnOfficialYearsRow.laidByTextAt .later Tryz.pinned [.data, .handle, .sentinel, .sentinel, .sentinel, .sentinel, .sentinel, .sentinel, .sentinel, .sentinel, .pinned] true :=
  OpenClaim.laidByTextAt_pinned rfl rfl tie2 rfl rfl rfl rfl (fun y hy _e => by
    simp only [Rows.fnOfficialYearsRow, List.zip_cons_cons, List.zip_nil_right, List.mem_cons, List.mem_nil_iff, or_false] at hy
    rcases hy with rfl | rfl | rfl | rfl | rfl | rfl | rfl | rfl | rfl | rfl | rfl
    · cases _e
    · cases _e
    · cases _e
    · cases _e
    · cases _e
    · cases _e
    · cases _e
    · cases _e
    · cases _e
    · cases _e
    · exact ⟨pin_laid_unicode_utf8_first, by kernel_rfl⟩) fits2
theorem fnNameTextsUpto_row_tie : Rows.fnNameTextsUptoRow.laidByTextAt .later Tryz.pinned [.data, .data, .data, .data, .handle, .sentinel, .sentinel, .sentinel, .sentinel, .sentinel, .sentinel, .sentinel, .pinned] true :=
  OpenClaim.laidByTextAt_pinned rfl rfl tie rfl rfl rfl rfl (fun y hy _e => by
    simp only [Rows.fnNameTextsUptoRow, List.zip_cons_cons, List.zip_nil_right, List.mem_cons, List.mem_nil_iff, or_false] at hy
    rcases hy with rfl | rfl | rfl | rfl | rfl | rfl | rfl | rfl | rfl | rfl | rfl | rfl | rfl
    · cases _e
    · cases _e
    · cases _e
    · cases _e
    · cases _e
    · cases _e
    · cases _e
    · cases _e
    · cases _e
    · cases _e
    · cases _e
    · cases _e
    · exact ⟨pin_laid_unicode_utf8_first, by kernel_rfl⟩) fits1
theorem fnNamesUpto_row_tie : Rows.fnNamesUptoRow.laidByTextAt .later Tryz.pinned [.data, .handle, .sentinel, .sentinel, .sentinel, .sentinel, .sentinel, .sentinel, .sentinel, .sentinel, .pinned] true :=
  OpenClaim.laidByTextAt_pinned rfl rfl tie2 rfl rfl rfl rfl (fun y hy _e => by
    simp only [Rows.fnNamesUptoRow, List.zip_cons_cons, List.zip_nil_right, List.mem_cons, List.mem_nil_iff, or_false] at hy
    rcases hy with rfl | rfl | rfl | rfl | rfl | rfl | rfl | rfl | rfl | rfl | rfl
    · cases _e
    · cases _e
    · cases _e
    · cases _e
    · cases _e
    · cases _e
    · cases _e
    · cases _e
    · cases _e
    · cases _e
    · exact ⟨pin_laid_unicode_utf8_first, by kernel_rfl⟩) fits2
theorem fnOfficialYearsUpto_row_tie : Rows.fnOfficialYearsUptoRow.laidByTextAt .later Tryz.pinned [.data, .handle, .sentinel, .sentinel, .sentinel, .sentinel, .sentinel, .sentinel, .sentinel, .sentinel, .pinned] true :=
  OpenClaim.laidByTextAt_pinned rfl rfl tie2 rfl rfl rfl rfl (fun y hy _e => by
    simp only [Rows.fnOfficialYearsUptoRow, List.zip_cons_cons, List.zip_nil_right, List.mem_cons, List.mem_nil_iff, or_false] at hy
    rcases hy with rfl | rfl | rfl | rfl | rfl | rfl | rfl | rfl | rfl | rfl | rfl
    · cases _e
    · cases _e
    · cases _e
    · cases _e
    · cases _e
    · cases _e
    · cases _e
    · cases _e
    · cases _e
    · cases _e
    · exact ⟨pin_laid_unicode_utf8_first, by kernel_rfl⟩) fits2
end Go.Proofs.YthlilfdndpnbkaaGreatDoor
