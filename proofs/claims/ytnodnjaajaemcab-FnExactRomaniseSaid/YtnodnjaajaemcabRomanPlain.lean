/-
  Plain facts on the texts of the rules that are used.
-/
import Derived.Test.YtnodnjaajaemcabUsedS
namespace Go.Proofs.Ytnodnjaajaemcab
set_option linter.unusedVariables false
open Go.RowKit

def romAt (rs : List Ru) (i : Int) : ByteArray := ((rs[i.toNat]?).map (·.2)).getD ByteArray.empty
def catR (rs : List Ru) (zs : List Int) : ByteArray := (zs.map (romAt rs)).foldl (· ++ ·) ByteArray.empty
theorem catR_zero (rs : List Ru) (zs : List Int) : catR rs (zs.take 0) = ⟨#[]⟩ := rfl
theorem catR_step {rs : List Ru} {zs : List Int} {k : Nat} {i : Int} (h : zs[k]? = some i) : catR rs (zs.take (k + 1)) = catR rs (zs.take k) ++ romAt rs i := by
  rw [takeK_snoc h]
  unfold catR
  rw [List.map_append, List.foldl_append]; rfl
/-- Places of rules. -/
def GoodZ (n : Nat) (zs : List Int) : Prop := ∀ i ∈ zs, ∃ q : Nat, i = (q : Int) ∧ q < n
theorem goodZ_used {rs : List Ru} {xs l : List Int} (h : usedF (placeK (keys rs)) xs = some l) : l.length ≤ xs.length ∧ GoodZ rs.length l :=
  usedF_mem (P := fun i => ∃ q : Nat, i = (q : Int) ∧ q < rs.length) (fun ys v hv => by
    obtain ⟨q, h1, h2, _⟩ := placeK_pos hv
    exact ⟨q, h1, by rwa [keys_len] at h2⟩) _ xs (Nat.le_refl _) l h
theorem romAt_at {rs : List Ru} {q : Nat} {r : Ru} (h : rs[q]? = some r) : romAt rs (q : Int) = r.2 := by unfold romAt; rw [Int.toNat_natCast, h]; rfl
theorem table_rom {rs : List Ru} (h : tableB rs = true) : ∀ r ∈ rs, r.2.size ≤ 4 := fun r hr => rom_len (rule_rom (goodT_mem (table_good h) hr))
end Go.Proofs.Ytnodnjaajaemcab
