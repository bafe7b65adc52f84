/-
  The law of NameText: its call answers true.
-/
import Derived.Test.YtjofndiofacjjaaDoorNText
import Derived.Test.YtjofndiofacjjaaDoorNmLaw
namespace Go.Proofs.YtjofndiofacjjaaDoor
set_option linter.unusedVariables false
open Go.RowKit

set_option maxHeartbeats 1000000 in
theorem wNText (x : Nm) (w : World) (ht : x.t.size ≤ maxLen) (hl : x.l.size ≤ maxLen) (hsh : w.ShapedOpen Tryd.prog) (her : Er4 w) (htab : Lib.TabIs Tryd.prog w "internal/strconv.uint64pow10" .u64 Lib.pow10Tab) :
    Calls Tryd.prog 11 #[nmA x] w fun e w' => e = .returned (.bool true) ∧ Below w.heap.size w w' := by
  have hb0 := (Below.refl w.heap.size w).alloc (Nat.le_refl _) (.cells #[.string x.t, .string x.l, .int .i64 x.s, .int .i64 x.f, .int .i64 x.u] 25)
  have SZ := Lib.hid (szN1 x 1048576 (w.alloc (.cells #[.string x.t, .string x.l, .int .i64 x.s, .int .i64 x.f, .int .i64 x.u] 25)) (by omega) (by omega) ht hl)
  have CT := Lib.hid (fun W => cToNm x W)
  have hgl : 9 < w.heap.size := World.block_lt_of_cell? w _ (htab.cell pow_named 0 (by rw [Lib.pow10Tab_length]; omega))
  have CS := Lib.hid (fun (h : x.t.size ≤ 1048576 ∧ x.l.size ≤ 1048576) W => cNText_spec x W h.1 h.2)
  have CI := Lib.hid (fun (h : x.t.size ≤ 1048576 ∧ x.l.size ≤ 1048576) W (hW : Below w.heap.size w W) => cNText_impl x W h.1 h.2 (shaped_below hsh hW) (her.below hW) (Nat.lt_of_lt_of_le hgl hW.size) (tab_below hW pow_named hgl htab))
  have KB := Lib.hid (fun W hW => nm_box (w := w) (W := W) (x := x) (t := 25) hW)
  have HB := Lib.hid hb0
  obtain ⟨b, hb⟩ : ∃ b, b = ntT x := ⟨_, rfl⟩
  obtain ⟨d, hdd⟩ : ∃ d, d = ntC x := ⟨_, rfl⟩
  rw [← hb, ← hdd] at CS CI
  have hd : (b.toList != b.toList) = false := by simp
  have hd2 : (d != d) = false := by simp
  clear hb hdd hsh her ht hl hb0 htab
  go_enter Tryd.func11, Tryd.ntmps11
  go_wp2_with fail
  refine SZ.out.mono ?_
  rintro e w1 ⟨⟨q, rfl, hq1, hq⟩, h1⟩
  have t1 := bstep9 HB.out HB.out.size h1
  by_cases hn : q < 0
  · clear hq
    go_wp2_with fail
    go_ret
    exact ⟨rfl, t1⟩
  obtain ⟨_, hs, hs2⟩ : 0 ≤ q ∧ x.t.size ≤ 1048576 ∧ x.l.size ≤ 1048576 := by rcases hq with h | h; exact absurd h hn; exact h
  clear hq
  have HS := Lib.hid (And.intro hs hs2)
  clear hs hs2
  obtain ⟨c0, c1, c2, c3, c4⟩ := KB.out w1 h1
  go_wp2_with fail
  refine (CT.out _).mono ?_
  rintro e w2 ⟨rfl, g2⟩
  have h2 := bstep9 h1 h1.size g2
  have t2 := bstep9 t1 t1.size g2
  clear c0 c1 c2 c3 c4
  clear h1 t1 g2
  go_wp2_with fail
  refine (CS.out HS.out _).mono ?_
  rintro e w3 ⟨rfl, g3⟩
  have h3 := bstep9 h2 h2.size g3
  have t3 := bstep9 t2 t2.size g3
  clear h2 t2 g3
  obtain ⟨c0, c1, c2, c3, c4⟩ := KB.out w3 h3
  go_wp2_with fail
  refine (CT.out _).mono ?_
  rintro e w4 ⟨rfl, g4⟩
  have h4 := bstep9 h3 h3.size g4
  have t4 := bstep9 t3 t3.size g4
  clear c0 c1 c2 c3 c4
  clear h3 t3 g4
  go_wp2_with fail
  refine (CI.out HS.out _ t4).mono ?_
  rintro e w5 ⟨rfl, g5⟩
  have h5 := bstep9 h4 h4.size g5
  have t5 := bstep9 t4 t4.size g5
  clear h4 t4 g5
  go_wp2_with fail
  go_ret
  exact ⟨rfl, t5⟩
end Go.Proofs.YtjofndiofacjjaaDoor
