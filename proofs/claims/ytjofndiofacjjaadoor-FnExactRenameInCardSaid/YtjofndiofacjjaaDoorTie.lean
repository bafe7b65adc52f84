/-
  DERIVED. GIVEN WITH THE SEED: THE PROGRAM's TIES (one call each: nine closed facts by the kernel) AND EACH ROW's TIE, after the 31st guide's Derived/Test/Toyas{Tie, Card}.lean. No idea stands in it: it is a product of the set-up. Laid BY PROGRAM, IN A SANDBOX (cutbox-door.mjs). By AI agents, Wed Nov 11 2026. No macro, syntax, notation, axiom, sorry.
-/
import Derived.Test.YtjofndiofacjjaaDoorRows
import Derived.LaidByTextLater
import Derived.SevenTiedAt
import Derived.LaidSub
import Derived.LaidOnce
namespace Go.Proofs.YtjofndiofacjjaaDoor
open Go
set_option maxRecDepth 100000
theorem seatTie1 : Tryd.prog.laidByTextLater [("math/bits.deBruijn32tab", Rows.laid_math_bits_deBruijn32tab), ("math/bits.deBruijn64tab", Rows.laid_math_bits_deBruijn64tab), ("internal/strconv.uint64pow10", Rows.laid_internal_strconv_uint64pow10), ("unicode/utf8.acceptRanges", Rows.laid_unicode_utf8_acceptRanges), ("errors.errorType", Rows.laid_errors_errorType), ("loop.example/g01030/impl.errNoPhrase", Rows.laid_loop_example_g01030_impl_errNoPhrase), ("loop.example/g01030/impl.errNoLanguage", Rows.laid_loop_example_g01030_impl_errNoLanguage), ("loop.example/g01030/impl.errNoStatus", Rows.laid_loop_example_g01030_impl_errNoStatus), ("loop.example/g01030/impl.errNoSpan", Rows.laid_loop_example_g01030_impl_errNoSpan), ("loop.example/g01030/impl.errNoYear", Rows.laid_loop_example_g01030_impl_errNoYear), ("loop.example/g01030/impl.errNoName", Rows.laid_loop_example_g01030_impl_errNoName), ("loop.example/g01030/impl.errNamesMeet", Rows.laid_loop_example_g01030_impl_errNamesMeet), ("loop.example/g01030/impl.errManyNames", Rows.laid_loop_example_g01030_impl_errManyNames)] [.data, .data, .data, .data, .handle, .sentinel, .sentinel, .sentinel, .sentinel, .sentinel, .sentinel, .sentinel, .sentinel] true :=
  Program.laidByTextLater_by_one 193 8 65 (by kernel_rfl) (by kernel_rfl) (by kernel_rfl) (by kernel_rfl) (by kernel_rfl) (by kernel_rfl) (fun _ _ => by kernel_rfl)
theorem pin_laid_unicode_utf8_first : Tryd.pinned.checked.prog.pinnedFits "unicode/utf8.first" = true := by kernel_rfl
theorem noOwnUnsafe : Tryd.pinned.checked.prog.headLifts.contains "ownunsafe" = false := by kernel_rfl
theorem fits1 : Tryd.pinned.checked.prog.listedFits [("unicode/utf8.acceptRanges", Rows.laid_unicode_utf8_acceptRanges), ("loop.example/g01030/impl.errNoPhrase", Rows.laid_loop_example_g01030_impl_errNoPhrase), ("loop.example/g01030/impl.errNoLanguage", Rows.laid_loop_example_g01030_impl_errNoLanguage), ("loop.example/g01030/impl.errNoStatus", Rows.laid_loop_example_g01030_impl_errNoStatus), ("loop.example/g01030/impl.errNoSpan", Rows.laid_loop_example_g01030_impl_errNoSpan), ("unicode/utf8.first", Rows.laid_unicode_utf8_first)] = true := by
  unfold Program.listedFits
  rw [noOwnUnsafe]
  kernel_rfl
theorem tie : Tryd.prog.laidByTextLater [("unicode/utf8.acceptRanges", Rows.laid_unicode_utf8_acceptRanges), ("loop.example/g01030/impl.errNoPhrase", Rows.laid_loop_example_g01030_impl_errNoPhrase), ("loop.example/g01030/impl.errNoLanguage", Rows.laid_loop_example_g01030_impl_errNoLanguage), ("loop.example/g01030/impl.errNoStatus", Rows.laid_loop_example_g01030_impl_errNoStatus), ("loop.example/g01030/impl.errNoSpan", Rows.laid_loop_example_g01030_impl_errNoSpan)] [.data, .sentinel, .sentinel, .sentinel, .sentinel] true :=
  Program.laidByTextLater.sub seatTie1 ["unicode/utf8.acceptRanges", "loop.example/g01030/impl.errNoPhrase", "loop.example/g01030/impl.errNoLanguage", "loop.example/g01030/impl.errNoStatus", "loop.example/g01030/impl.errNoSpan"] (by kernel_rfl) (by kernel_rfl)
theorem fnExactIsName_row_tie : Rows.fnExactIsNameRow.laidByTextAt .later Tryd.pinned [.data, .sentinel, .sentinel, .sentinel, .sentinel, .pinned] true :=
  OpenClaim.laidByTextAt_pinned rfl rfl tie rfl rfl rfl rfl (fun y hy _e => by
    simp only [Rows.fnExactIsNameRow, List.zip_cons_cons, List.zip_nil_right, List.mem_cons, List.mem_nil_iff, or_false] at hy
    rcases hy with rfl | rfl | rfl | rfl | rfl | rfl
    · cases _e
    · cases _e
    · cases _e
    · cases _e
    · cases _e
    · exact ⟨pin_laid_unicode_utf8_first, by kernel_rfl⟩) fits1
theorem fits2 : Tryd.pinned.checked.prog.listedFits [("unicode/utf8.acceptRanges", Rows.laid_unicode_utf8_acceptRanges), ("loop.example/g01030/impl.errNoPhrase", Rows.laid_loop_example_g01030_impl_errNoPhrase), ("loop.example/g01030/impl.errNoLanguage", Rows.laid_loop_example_g01030_impl_errNoLanguage), ("loop.example/g01030/impl.errNoStatus", Rows.laid_loop_example_g01030_impl_errNoStatus), ("loop.example/g01030/impl.errNoSpan", Rows.laid_loop_example_g01030_impl_errNoSpan), ("loop.example/g01030/impl.errNamesMeet", Rows.laid_loop_example_g01030_impl_errNamesMeet), ("loop.example/g01030/impl.errManyNames", Rows.laid_loop_example_g01030_impl_errManyNames), ("unicode/utf8.first", Rows.laid_unicode_utf8_first)] = true := by
  unfold Program.listedFits
  rw [noOwnUnsafe]
  kernel_rfl
theorem tie2 : Tryd.prog.laidByTextLater [("unicode/utf8.acceptRanges", Rows.laid_unicode_utf8_acceptRanges), ("loop.example/g01030/impl.errNoPhrase", Rows.laid_loop_example_g01030_impl_errNoPhrase), ("loop.example/g01030/impl.errNoLanguage", Rows.laid_loop_example_g01030_impl_errNoLanguage), ("loop.example/g01030/impl.errNoStatus", Rows.laid_loop_example_g01030_impl_errNoStatus), ("loop.example/g01030/impl.errNoSpan", Rows.laid_loop_example_g01030_impl_errNoSpan), ("loop.example/g01030/impl.errNamesMeet", Rows.laid_loop_example_g01030_impl_errNamesMeet), ("loop.example/g01030/impl.errManyNames", Rows.laid_loop_example_g01030_impl_errManyNames)] [.data, .sentinel, .sentinel, .sentinel, .sentinel, .sentinel, .sentinel] true :=
  Program.laidByTextLater.sub seatTie1 ["unicode/utf8.acceptRanges", "loop.example/g01030/impl.errNoPhrase", "loop.example/g01030/impl.errNoLanguage", "loop.example/g01030/impl.errNoStatus", "loop.example/g01030/impl.errNoSpan", "loop.example/g01030/impl.errNamesMeet", "loop.example/g01030/impl.errManyNames"] (by kernel_rfl) (by kernel_rfl)
theorem fnExactAreNames_row_tie : Rows.fnExactAreNamesRow.laidByTextAt .later Tryd.pinned [.data, .sentinel, .sentinel, .sentinel, .sentinel, .sentinel, .sentinel, .pinned] true :=
  OpenClaim.laidByTextAt_pinned rfl rfl tie2 rfl rfl rfl rfl (fun y hy _e => by
    simp only [Rows.fnExactAreNamesRow, List.zip_cons_cons, List.zip_nil_right, List.mem_cons, List.mem_nil_iff, or_false] at hy
    rcases hy with rfl | rfl | rfl | rfl | rfl | rfl | rfl | rfl
    · cases _e
    · cases _e
    · cases _e
    · cases _e
    · cases _e
    · cases _e
    · cases _e
    · exact ⟨pin_laid_unicode_utf8_first, by kernel_rfl⟩) fits2
theorem fnExactLanguagesOf_row_tie : Rows.fnExactLanguagesOfRow.laidByTextAt .later Tryd.pinned [.data, .sentinel, .sentinel, .sentinel, .sentinel, .sentinel, .sentinel, .pinned] true :=
  OpenClaim.laidByTextAt_pinned rfl rfl tie2 rfl rfl rfl rfl (fun y hy _e => by
    simp only [Rows.fnExactLanguagesOfRow, List.zip_cons_cons, List.zip_nil_right, List.mem_cons, List.mem_nil_iff, or_false] at hy
    rcases hy with rfl | rfl | rfl | rfl | rfl | rfl | rfl | rfl
    · cases _e
    · cases _e
    · cases _e
    · cases _e
    · cases _e
    · cases _e
    · cases _e
    · exact ⟨pin_laid_unicode_utf8_first, by kernel_rfl⟩) fits2
theorem fnExactOfficialYears_row_tie : Rows.fnExactOfficialYearsRow.laidByTextAt .later Tryd.pinned [.data, .sentinel, .sentinel, .sentinel, .sentinel, .sentinel, .sentinel, .pinned] true :=
  OpenClaim.laidByTextAt_pinned rfl rfl tie2 rfl rfl rfl rfl (fun y hy _e => by
    simp only [Rows.fnExactOfficialYearsRow, List.zip_cons_cons, List.zip_nil_right, List.mem_cons, List.mem_nil_iff, or_false] at hy
    rcases hy with rfl | rfl | rfl | rfl | rfl | rfl | rfl | rfl
    · cases _e
    · cases _e
    · cases _e
    · cases _e
    · cases _e
    · cases _e
    · cases _e
    · exact ⟨pin_laid_unicode_utf8_first, by kernel_rfl⟩) fits2
theorem fits3 : Tryd.pinned.checked.prog.listedFits [("unicode/utf8.acceptRanges", Rows.laid_unicode_utf8_acceptRanges), ("errors.errorType", Rows.laid_errors_errorType), ("loop.example/g01030/impl.errNoPhrase", Rows.laid_loop_example_g01030_impl_errNoPhrase), ("loop.example/g01030/impl.errNoLanguage", Rows.laid_loop_example_g01030_impl_errNoLanguage), ("loop.example/g01030/impl.errNoStatus", Rows.laid_loop_example_g01030_impl_errNoStatus), ("loop.example/g01030/impl.errNoSpan", Rows.laid_loop_example_g01030_impl_errNoSpan), ("loop.example/g01030/impl.errNoYear", Rows.laid_loop_example_g01030_impl_errNoYear), ("loop.example/g01030/impl.errNamesMeet", Rows.laid_loop_example_g01030_impl_errNamesMeet), ("loop.example/g01030/impl.errManyNames", Rows.laid_loop_example_g01030_impl_errManyNames), ("unicode/utf8.first", Rows.laid_unicode_utf8_first)] = true := by
  unfold Program.listedFits
  rw [noOwnUnsafe]
  kernel_rfl
theorem tie3 : Tryd.prog.laidByTextLater [("unicode/utf8.acceptRanges", Rows.laid_unicode_utf8_acceptRanges), ("errors.errorType", Rows.laid_errors_errorType), ("loop.example/g01030/impl.errNoPhrase", Rows.laid_loop_example_g01030_impl_errNoPhrase), ("loop.example/g01030/impl.errNoLanguage", Rows.laid_loop_example_g01030_impl_errNoLanguage), ("loop.example/g01030/impl.errNoStatus", Rows.laid_loop_example_g01030_impl_errNoStatus), ("loop.example/g01030/impl.errNoSpan", Rows.laid_loop_example_g01030_impl_errNoSpan), ("loop.example/g01030/impl.errNoYear", Rows.laid_loop_example_g01030_impl_errNoYear), ("loop.example/g01030/impl.errNamesMeet", Rows.laid_loop_example_g01030_impl_errNamesMeet), ("loop.example/g01030/impl.errManyNames", Rows.laid_loop_example_g01030_impl_errManyNames)] [.data, .handle, .sentinel, .sentinel, .sentinel, .sentinel, .sentinel, .sentinel, .sentinel] true :=
  Program.laidByTextLater.sub seatTie1 ["unicode/utf8.acceptRanges", "errors.errorType", "loop.example/g01030/impl.errNoPhrase", "loop.example/g01030/impl.errNoLanguage", "loop.example/g01030/impl.errNoStatus", "loop.example/g01030/impl.errNoSpan", "loop.example/g01030/impl.errNoYear", "loop.example/g01030/impl.errNamesMeet", "loop.example/g01030/impl.errManyNames"] (by kernel_rfl) (by kernel_rfl)
theorem fnExactUsedIn_row_tie : Rows.fnExactUsedInRow.laidByTextAt .later Tryd.pinned [.data, .handle, .sentinel, .sentinel, .sentinel, .sentinel, .sentinel, .sentinel, .sentinel, .pinned] true :=
  OpenClaim.laidByTextAt_pinned rfl rfl tie3 rfl rfl rfl rfl (fun y hy _e => by
    simp only [Rows.fnExactUsedInRow, List.zip_cons_cons, List.zip_nil_right, List.mem_cons, List.mem_nil_iff, or_false] at hy
    rcases hy with rfl | rfl | rfl | rfl | rfl | rfl | rfl | rfl | rfl | rfl
    · cases _e
    · cases _e
    · cases _e
    · cases _e
    · cases _e
    · cases _e
    · cases _e
    · cases _e
    · cases _e
    · exact ⟨pin_laid_unicode_utf8_first, by kernel_rfl⟩) fits3
theorem fits4 : Tryd.pinned.checked.prog.listedFits [("unicode/utf8.acceptRanges", Rows.laid_unicode_utf8_acceptRanges), ("errors.errorType", Rows.laid_errors_errorType), ("loop.example/g01030/impl.errNoPhrase", Rows.laid_loop_example_g01030_impl_errNoPhrase), ("loop.example/g01030/impl.errNoLanguage", Rows.laid_loop_example_g01030_impl_errNoLanguage), ("loop.example/g01030/impl.errNoStatus", Rows.laid_loop_example_g01030_impl_errNoStatus), ("loop.example/g01030/impl.errNoSpan", Rows.laid_loop_example_g01030_impl_errNoSpan), ("loop.example/g01030/impl.errNoYear", Rows.laid_loop_example_g01030_impl_errNoYear), ("loop.example/g01030/impl.errNoName", Rows.laid_loop_example_g01030_impl_errNoName), ("loop.example/g01030/impl.errNamesMeet", Rows.laid_loop_example_g01030_impl_errNamesMeet), ("loop.example/g01030/impl.errManyNames", Rows.laid_loop_example_g01030_impl_errManyNames), ("unicode/utf8.first", Rows.laid_unicode_utf8_first)] = true := by
  unfold Program.listedFits
  rw [noOwnUnsafe]
  kernel_rfl
theorem tie4 : Tryd.prog.laidByTextLater [("unicode/utf8.acceptRanges", Rows.laid_unicode_utf8_acceptRanges), ("errors.errorType", Rows.laid_errors_errorType), ("loop.example/g01030/impl.errNoPhrase", Rows.laid_loop_example_g01030_impl_errNoPhrase), ("loop.example/g01030/impl.errNoLanguage", Rows.laid_loop_example_g01030_impl_errNoLanguage), ("loop.example/g01030/impl.errNoStatus", Rows.laid_loop_example_g01030_impl_errNoStatus), ("loop.example/g01030/impl.errNoSpan", Rows.laid_loop_example_g01030_impl_errNoSpan), ("loop.example/g01030/impl.errNoYear", Rows.laid_loop_example_g01030_impl_errNoYear), ("loop.example/g01030/impl.errNoName", Rows.laid_loop_example_g01030_impl_errNoName), ("loop.example/g01030/impl.errNamesMeet", Rows.laid_loop_example_g01030_impl_errNamesMeet), ("loop.example/g01030/impl.errManyNames", Rows.laid_loop_example_g01030_impl_errManyNames)] [.data, .handle, .sentinel, .sentinel, .sentinel, .sentinel, .sentinel, .sentinel, .sentinel, .sentinel] true :=
  Program.laidByTextLater.sub seatTie1 ["unicode/utf8.acceptRanges", "errors.errorType", "loop.example/g01030/impl.errNoPhrase", "loop.example/g01030/impl.errNoLanguage", "loop.example/g01030/impl.errNoStatus", "loop.example/g01030/impl.errNoSpan", "loop.example/g01030/impl.errNoYear", "loop.example/g01030/impl.errNoName", "loop.example/g01030/impl.errNamesMeet", "loop.example/g01030/impl.errManyNames"] (by kernel_rfl) (by kernel_rfl)
theorem fnExactOfficialIn_row_tie : Rows.fnExactOfficialInRow.laidByTextAt .later Tryd.pinned [.data, .handle, .sentinel, .sentinel, .sentinel, .sentinel, .sentinel, .sentinel, .sentinel, .sentinel, .pinned] true :=
  OpenClaim.laidByTextAt_pinned rfl rfl tie4 rfl rfl rfl rfl (fun y hy _e => by
    simp only [Rows.fnExactOfficialInRow, List.zip_cons_cons, List.zip_nil_right, List.mem_cons, List.mem_nil_iff, or_false] at hy
    rcases hy with rfl | rfl | rfl | rfl | rfl | rfl | rfl | rfl | rfl | rfl | rfl
    · cases _e
    · cases _e
    · cases _e
    · cases _e
    · cases _e
    · cases _e
    · cases _e
    · cases _e
    · cases _e
    · cases _e
    · exact ⟨pin_laid_unicode_utf8_first, by kernel_rfl⟩) fits4
theorem fnExactBestIn_row_tie : Rows.fnExactBestInRow.laidByTextAt .later Tryd.pinned [.data, .handle, .sentinel, .sentinel, .sentinel, .sentinel, .sentinel, .sentinel, .sentinel, .sentinel, .pinned] true :=
  OpenClaim.laidByTextAt_pinned rfl rfl tie4 rfl rfl rfl rfl (fun y hy _e => by
    simp only [Rows.fnExactBestInRow, List.zip_cons_cons, List.zip_nil_right, List.mem_cons, List.mem_nil_iff, or_false] at hy
    rcases hy with rfl | rfl | rfl | rfl | rfl | rfl | rfl | rfl | rfl | rfl | rfl
    · cases _e
    · cases _e
    · cases _e
    · cases _e
    · cases _e
    · cases _e
    · cases _e
    · cases _e
    · cases _e
    · cases _e
    · exact ⟨pin_laid_unicode_utf8_first, by kernel_rfl⟩) fits4
theorem fnExactRenameIn_row_tie : Rows.fnExactRenameInRow.laidByTextAt .later Tryd.pinned [.data, .handle, .sentinel, .sentinel, .sentinel, .sentinel, .sentinel, .sentinel, .sentinel, .sentinel, .pinned] true :=
  OpenClaim.laidByTextAt_pinned rfl rfl tie4 rfl rfl rfl rfl (fun y hy _e => by
    simp only [Rows.fnExactRenameInRow, List.zip_cons_cons, List.zip_nil_right, List.mem_cons, List.mem_nil_iff, or_false] at hy
    rcases hy with rfl | rfl | rfl | rfl | rfl | rfl | rfl | rfl | rfl | rfl | rfl
    · cases _e
    · cases _e
    · cases _e
    · cases _e
    · cases _e
    · cases _e
    · cases _e
    · cases _e
    · cases _e
    · cases _e
    · exact ⟨pin_laid_unicode_utf8_first, by kernel_rfl⟩) fits4
theorem fits5 : Tryd.pinned.checked.prog.listedFits [("math/bits.deBruijn32tab", Rows.laid_math_bits_deBruijn32tab), ("math/bits.deBruijn64tab", Rows.laid_math_bits_deBruijn64tab), ("internal/strconv.uint64pow10", Rows.laid_internal_strconv_uint64pow10), ("unicode/utf8.acceptRanges", Rows.laid_unicode_utf8_acceptRanges), ("loop.example/g01030/impl.errNoPhrase", Rows.laid_loop_example_g01030_impl_errNoPhrase), ("loop.example/g01030/impl.errNoLanguage", Rows.laid_loop_example_g01030_impl_errNoLanguage), ("loop.example/g01030/impl.errNoStatus", Rows.laid_loop_example_g01030_impl_errNoStatus), ("loop.example/g01030/impl.errNoSpan", Rows.laid_loop_example_g01030_impl_errNoSpan), ("unicode/utf8.first", Rows.laid_unicode_utf8_first)] = true := by
  unfold Program.listedFits
  rw [noOwnUnsafe]
  kernel_rfl
theorem tie5 : Tryd.prog.laidByTextLater [("math/bits.deBruijn32tab", Rows.laid_math_bits_deBruijn32tab), ("math/bits.deBruijn64tab", Rows.laid_math_bits_deBruijn64tab), ("internal/strconv.uint64pow10", Rows.laid_internal_strconv_uint64pow10), ("unicode/utf8.acceptRanges", Rows.laid_unicode_utf8_acceptRanges), ("loop.example/g01030/impl.errNoPhrase", Rows.laid_loop_example_g01030_impl_errNoPhrase), ("loop.example/g01030/impl.errNoLanguage", Rows.laid_loop_example_g01030_impl_errNoLanguage), ("loop.example/g01030/impl.errNoStatus", Rows.laid_loop_example_g01030_impl_errNoStatus), ("loop.example/g01030/impl.errNoSpan", Rows.laid_loop_example_g01030_impl_errNoSpan)] [.data, .data, .data, .data, .sentinel, .sentinel, .sentinel, .sentinel] true :=
  Program.laidByTextLater.sub seatTie1 ["math/bits.deBruijn32tab", "math/bits.deBruijn64tab", "internal/strconv.uint64pow10", "unicode/utf8.acceptRanges", "loop.example/g01030/impl.errNoPhrase", "loop.example/g01030/impl.errNoLanguage", "loop.example/g01030/impl.errNoStatus", "loop.example/g01030/impl.errNoSpan"] (by kernel_rfl) (by kernel_rfl)
theorem fnExactNameText_row_tie : Rows.fnExactNameTextRow.laidByTextAt .later Tryd.pinned [.data, .data, .data, .data, .sentinel, .sentinel, .sentinel, .sentinel, .pinned] true :=
  OpenClaim.laidByTextAt_pinned rfl rfl tie5 rfl rfl rfl rfl (fun y hy _e => by
    simp only [Rows.fnExactNameTextRow, List.zip_cons_cons, List.zip_nil_right, List.mem_cons, List.mem_nil_iff, or_false] at hy
    rcases hy with rfl | rfl | rfl | rfl | rfl | rfl | rfl | rfl | rfl
    · cases _e
    · cases _e
    · cases _e
    · cases _e
    · cases _e
    · cases _e
    · cases _e
    · cases _e
    · exact ⟨pin_laid_unicode_utf8_first, by kernel_rfl⟩) fits5
theorem fnExactIsNameUpto_row_tie : Rows.fnExactIsNameUptoRow.laidByTextAt .later Tryd.pinned [.data, .sentinel, .sentinel, .sentinel, .sentinel, .pinned] true :=
  OpenClaim.laidByTextAt_pinned rfl rfl tie rfl rfl rfl rfl (fun y hy _e => by
    simp only [Rows.fnExactIsNameUptoRow, List.zip_cons_cons, List.zip_nil_right, List.mem_cons, List.mem_nil_iff, or_false] at hy
    rcases hy with rfl | rfl | rfl | rfl | rfl | rfl
    · cases _e
    · cases _e
    · cases _e
    · cases _e
    · cases _e
    · exact ⟨pin_laid_unicode_utf8_first, by kernel_rfl⟩) fits1
theorem fnExactAreNamesUpto_row_tie : Rows.fnExactAreNamesUptoRow.laidByTextAt .later Tryd.pinned [.data, .sentinel, .sentinel, .sentinel, .sentinel, .sentinel, .sentinel, .pinned] true :=
  OpenClaim.laidByTextAt_pinned rfl rfl tie2 rfl rfl rfl rfl (fun y hy _e => by
    simp only [Rows.fnExactAreNamesUptoRow, List.zip_cons_cons, List.zip_nil_right, List.mem_cons, List.mem_nil_iff, or_false] at hy
    rcases hy with rfl | rfl | rfl | rfl | rfl | rfl | rfl | rfl
    · cases _e
    · cases _e
    · cases _e
    · cases _e
    · cases _e
    · cases _e
    · cases _e
    · exact ⟨pin_laid_unicode_utf8_first, by kernel_rfl⟩) fits2
theorem fnExactUsedInUpto_row_tie : Rows.fnExactUsedInUptoRow.laidByTextAt .later Tryd.pinned [.data, .handle, .sentinel, .sentinel, .sentinel, .sentinel, .sentinel, .sentinel, .sentinel, .pinned] true :=
  OpenClaim.laidByTextAt_pinned rfl rfl tie3 rfl rfl rfl rfl (fun y hy _e => by
    simp only [Rows.fnExactUsedInUptoRow, List.zip_cons_cons, List.zip_nil_right, List.mem_cons, List.mem_nil_iff, or_false] at hy
    rcases hy with rfl | rfl | rfl | rfl | rfl | rfl | rfl | rfl | rfl | rfl
    · cases _e
    · cases _e
    · cases _e
    · cases _e
    · cases _e
    · cases _e
    · cases _e
    · cases _e
    · cases _e
    · exact ⟨pin_laid_unicode_utf8_first, by kernel_rfl⟩) fits3
theorem fnExactOfficialInUpto_row_tie : Rows.fnExactOfficialInUptoRow.laidByTextAt .later Tryd.pinned [.data, .handle, .sentinel, .sentinel, .sentinel, .sentinel, .sentinel, .sentinel, .sentinel, .sentinel, .pinned] true :=
  OpenClaim.laidByTextAt_pinned rfl rfl tie4 rfl rfl rfl rfl (fun y hy _e => by
    simp only [Rows.fnExactOfficialInUptoRow, List.zip_cons_cons, List.zip_nil_right, List.mem_cons, List.mem_nil_iff, or_false] at hy
    rcases hy with rfl | rfl | rfl | rfl | rfl | rfl | rfl | rfl | rfl | rfl | rfl
    · cases _e
    · cases _e
    · cases _e
    · cases _e
    · cases _e
    · cases _e
    · cases _e
    · cases _e
    · cases _e
    · cases _e
    · exact ⟨pin_laid_unicode_utf8_first, by kernel_rfl⟩) fits4
theorem fnExactBestInUpto_row_tie : Rows.fnExactBestInUptoRow.laidByTextAt .later Tryd.pinned [.data, .handle, .sentinel, .sentinel, .sentinel, .sentinel, .sentinel, .sentinel, .sentinel, .sentinel, .pinned] true :=
  OpenClaim.laidByTextAt_pinned rfl rfl tie4 rfl rfl rfl rfl (fun y hy _e => by
    simp only [Rows.fnExactBestInUptoRow, List.zip_cons_cons, List.zip_nil_right, List.mem_cons, List.mem_nil_iff, or_false] at hy
    rcases hy with rfl | rfl | rfl | rfl | rfl | rfl | rfl | rfl | rfl | rfl | rfl
    · cases _e
    · cases _e
    · cases _e
    · cases _e
    · cases _e
    · cases _e
    · cases _e
    · cases _e
    · cases _e
    · cases _e
    · exact ⟨pin_laid_unicode_utf8_first, by kernel_rfl⟩) fits4
theorem fnExactRenameInUpto_row_tie : Rows.fnExactRenameInUptoRow.laidByTextAt .later Tryd.pinned [.data, .handle, .sentinel, .sentinel, .sentinel, .sentinel, .sentinel, .sentinel, .sentinel, .sentinel, .pinned] true :=
  OpenClaim.laidByTextAt_pinned rfl rfl tie4 rfl rfl rfl rfl (fun y hy _e => by
    simp only [Rows.fnExactRenameInUptoRow, List.zip_cons_cons, List.zip_nil_right, List.mem_cons, List.mem_nil_iff, or_false] at hy
    rcases hy with rfl | rfl | rfl | rfl | rfl | rfl | rfl | rfl | rfl | rfl | rfl
    · cases _e
    · cases _e
    · cases _e
    · cases _e
    · cases _e
    · cases _e
    · cases _e
    · cases _e
    · cases _e
    · cases _e
    · exact ⟨pin_laid_unicode_utf8_first, by kernel_rfl⟩) fits4
theorem fnExactLanguagesOfUpto_row_tie : Rows.fnExactLanguagesOfUptoRow.laidByTextAt .later Tryd.pinned [.data, .sentinel, .sentinel, .sentinel, .sentinel, .sentinel, .sentinel, .pinned] true :=
  OpenClaim.laidByTextAt_pinned rfl rfl tie2 rfl rfl rfl rfl (fun y hy _e => by
    simp only [Rows.fnExactLanguagesOfUptoRow, List.zip_cons_cons, List.zip_nil_right, List.mem_cons, List.mem_nil_iff, or_false] at hy
    rcases hy with rfl | rfl | rfl | rfl | rfl | rfl | rfl | rfl
    · cases _e
    · cases _e
    · cases _e
    · cases _e
    · cases _e
    · cases _e
    · cases _e
    · exact ⟨pin_laid_unicode_utf8_first, by kernel_rfl⟩) fits2
theorem fnExactOfficialYearsUpto_row_tie : Rows.fnExactOfficialYearsUptoRow.laidByTextAt .later Tryd.pinned [.data, .sentinel, .sentinel, .sentinel, .sentinel, .sentinel, .sentinel, .pinned] true :=
  OpenClaim.laidByTextAt_pinned rfl rfl tie2 rfl rfl rfl rfl (fun y hy _e => by
    simp only [Rows.fnExactOfficialYearsUptoRow, List.zip_cons_cons, List.zip_nil_right, List.mem_cons, List.mem_nil_iff, or_false] at hy
    rcases hy with rfl | rfl | rfl | rfl | rfl | rfl | rfl | rfl
    · cases _e
    · cases _e
    · cases _e
    · cases _e
    · cases _e
    · cases _e
    · cases _e
    · exact ⟨pin_laid_unicode_utf8_first, by kernel_rfl⟩) fits2
theorem fnExactNameTextUpto_row_tie : Rows.fnExactNameTextUptoRow.laidByTextAt .later Tryd.pinned [.data, .data, .data, .data, .sentinel, .sentinel, .sentinel, .sentinel, .pinned] true :=
  OpenClaim.laidByTextAt_pinned rfl rfl tie5 rfl rfl rfl rfl (fun y hy _e => by
    simp only [Rows.fnExactNameTextUptoRow, List.zip_cons_cons, List.zip_nil_right, List.mem_cons, List.mem_nil_iff, or_false] at hy
    rcases hy with rfl | rfl | rfl | rfl | rfl | rfl | rfl | rfl | rfl
    · cases _e
    · cases _e
    · cases _e
    · cases _e
    · cases _e
    · cases _e
    · cases _e
    · cases _e
    · exact ⟨pin_laid_unicode_utf8_first, by kernel_rfl⟩) fits5
end Go.Proofs.YtjofndiofacjjaaDoor
