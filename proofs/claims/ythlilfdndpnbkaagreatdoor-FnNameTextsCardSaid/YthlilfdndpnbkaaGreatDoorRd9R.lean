/-
  The contract of impl.ReadName.
-/
import Derived.Test.YthlilfdndpnbkaaGreatDoorRd9
import Derived.Deep.RegionWith
namespace Go.Proofs.YthlilfdndpnbkaaGreatDoor
set_option linter.unusedVariables false
open Go.RowKit

set_option maxHeartbeats 4000000 in
set_option maxRecDepth 100000 in
theorem cRd_impl (s : ByteArray) (w : World) (hs : s.size ≤ 1048576) (hl : Laid w) (hsh : w.ShapedOpen Tryz.prog) (her : Er5 w) :
    Calls Tryz.prog 11 #[.string s] w fun e w' => e = .returned (.tuple #[nmA (rdF s), .int .i64 (rdC s)]) ∧ Below w.heap.size w w' := by
  have CF := Lib.hid (fun W (hW : Below w.heap.size w W) => cNameIn s W hs (hl.below hW) (shaped_below hsh hW) (her.below hW))
  have CN := Lib.hid (fun W => cCodeNil W)
  have CR := Lib.hid (fun (q : Int) u W (hW : Below w.heap.size w W) => cCodeRef q (.iface 257 u) W rfl (her.t.below hW))
  clear hl hsh her
  obtain ⟨z, hz⟩ : ∃ z, z = rdF s := ⟨_, rfl⟩
  obtain ⟨q, hq⟩ : ∃ q, q = rdC s := ⟨_, rfl⟩
  rw [← hz, ← hq] at CF ⊢
  clear hz hq
  obtain ⟨W0, hW0⟩ : ∃ W0, W0 = w.alloc (.cells #[.string ⟨#[]⟩, .string ⟨#[]⟩, .int .i64 0, .int .i64 0, .int .i64 0] 27) := ⟨_, rfl⟩
  have hb0 : Below w.heap.size w W0 := by rw [hW0]; exact (Below.refl w.heap.size w).alloc (Nat.le_refl _) _
  have K0 : NRes W0 w.heap.size := by rw [hW0]; exact NRes.new w
  have HW0 := Lib.hid hW0
  have HB0 := Lib.hid hb0
  have HR0 := Lib.hid K0
  clear hW0 K0 hb0
  go_enter Tryz.func11, Tryz.ntmps11
  go_wp2_with fail
  rw [← HW0.out]
  refine (CF.out W0 HB0.out).mono ?_
  rintro e w1 ⟨⟨v, rfl, hv⟩, g1⟩
  have hb1 := bstep9 HB0.out HB0.out.size g1
  have HR1 := Lib.hid (HR0.out.below g1)
  have gb := (Below.refl w1.heap.size w1).alloc (Nat.le_refl _) (.cells #[.string z.t, .string z.l, .int .i64 z.s, .int .i64 z.f, .int .i64 z.u] 27)
  have hb2 := bstep9 hb1 hb1.size gb
  have HR2 := Lib.hid (HR1.out.below gb)
  have HKB := Lib.hid (fun W hW => nm_box (w := w1) (W := W) (x := z) (t := 27) hW)
  have HB2 := Lib.hid hb2
  obtain ⟨n0, n1, n2, n3, n4⟩ := HKB.out _ (Below.refl _ _)
  obtain ⟨lB, ⟨a0, a1, a2, a3, a4⟩, fB⟩ := HR2.out
  have lN : w1.heap.size < (w1.alloc (.cells #[.string z.t, .string z.l, .int .i64 z.s, .int .i64 z.f, .int .i64 z.u] 27)).heap.size := by simp
  clear g1 gb hb2 hb1
  rcases hv with ⟨rfl, rfl⟩ | ⟨_, u, rfl⟩
  · go_wp2_with fail
    go_region_with ((go_at_call 51; refine (CN.out _).mono ?_; rintro e wc ⟨rfl, gc⟩; have b0 := (gc.cell (p := ⟨w1.heap.size, 0, none⟩) lN).trans n0; have b1 := (gc.cell (p := ⟨w1.heap.size, 1, none⟩) lN).trans n1; have b2 := (gc.cell (p := ⟨w1.heap.size, 2, none⟩) lN).trans n2; have b3 := (gc.cell (p := ⟨w1.heap.size, 3, none⟩) lN).trans n3; have b4 := (gc.cell (p := ⟨w1.heap.size, 4, none⟩) lN).trans n4; have d0 := (gc.cell (p := ⟨w.heap.size, 0, none⟩) lB).trans a0; have d1 := (gc.cell (p := ⟨w.heap.size, 1, none⟩) lB).trans a1; have d2 := (gc.cell (p := ⟨w.heap.size, 2, none⟩) lB).trans a2; have d3 := (gc.cell (p := ⟨w.heap.size, 3, none⟩) lB).trans a3; have d4 := (gc.cell (p := ⟨w.heap.size, 4, none⟩) lB).trans a4; have fC : ∀ k, wc.frozen? ⟨w.heap.size, k, none⟩ = false := fun k => (gc.frozen (p := ⟨w.heap.size, k, none⟩) lB).trans (fB k); have hbc : Below w.heap.size w wc := HB2.out.drew.trans (gc.mono HB2.out.size)))
    all_goals
      go_wp2_with fail
      refine bodyPost_ret (v := .tuple #[nmA z, .int .i64 0]) ?_ rfl ⟨rfl, setR5 hbc (Nat.le_refl _) _ _ _ _ _⟩
      simp [results, Tryz.results11, go_sem, d0, d1, d2, d3, d4]
  · have CRU := Lib.hid (CR.out q u _ HB2.out)
    go_wp2_with fail
    go_region_with ((go_at_call 51; refine (CR.out q u _ HB2.out.drew).mono ?_; rintro e wc ⟨rfl, gc⟩; have b0 := (gc.cell (p := ⟨w1.heap.size, 0, none⟩) lN).trans n0; have b1 := (gc.cell (p := ⟨w1.heap.size, 1, none⟩) lN).trans n1; have b2 := (gc.cell (p := ⟨w1.heap.size, 2, none⟩) lN).trans n2; have b3 := (gc.cell (p := ⟨w1.heap.size, 3, none⟩) lN).trans n3; have b4 := (gc.cell (p := ⟨w1.heap.size, 4, none⟩) lN).trans n4; have d0 := (gc.cell (p := ⟨w.heap.size, 0, none⟩) lB).trans a0; have d1 := (gc.cell (p := ⟨w.heap.size, 1, none⟩) lB).trans a1; have d2 := (gc.cell (p := ⟨w.heap.size, 2, none⟩) lB).trans a2; have d3 := (gc.cell (p := ⟨w.heap.size, 3, none⟩) lB).trans a3; have d4 := (gc.cell (p := ⟨w.heap.size, 4, none⟩) lB).trans a4; have fC : ∀ k, wc.frozen? ⟨w.heap.size, k, none⟩ = false := fun k => (gc.frozen (p := ⟨w.heap.size, k, none⟩) lB).trans (fB k); have hbc : Below w.heap.size w wc := HB2.out.drew.trans (gc.mono HB2.out.size)))
    all_goals
      go_wp2_with fail
      refine bodyPost_ret (v := .tuple #[nmA z, .int .i64 q]) ?_ rfl ⟨rfl, setR5 hbc (Nat.le_refl _) _ _ _ _ _⟩
      simp [results, Tryz.results11, go_sem, d0, d1, d2, d3, d4]
end Go.Proofs.YthlilfdndpnbkaaGreatDoor
