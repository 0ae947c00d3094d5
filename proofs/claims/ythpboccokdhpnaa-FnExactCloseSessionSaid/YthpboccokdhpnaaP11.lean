/-
  CHAPTER 3: numbers, by the reading.
-/
import Derived.Test.YthpboccokdhpnaaP3
import Derived.Test.YthpboccokdhpnaaM1
import Derived.Test.YthpboccokdhpnaaAmG
namespace Go.Proofs.Ythpboccokdhpnaa
open Go Go.Am Go.RowKit
set_option linter.unusedVariables false
set_option linter.unusedSimpArgs false
theorem flat_vals {α : Type} (g : α → Value) (zs : List α) : ∀ r ∈ zs.map (fun z => [AV.val (g z)]), ∀ c ∈ r, ∃ u, c = AV.val u := by
  intro r hr c hc
  obtain ⟨z, _, rfl⟩ := List.mem_map.1 hr
  simp at hc
  exact ⟨_, hc⟩
abbrev pkh (i j : Nat) (s : List Int) : Hp := [(i, .box [.own j s.length]), (j, .list 5 1 (uvs s))]
theorem takeU (s : List Int) : List.take s.length (uvs s) = uvs s := List.take_of_length_le (by simp)
end Go.Proofs.Ythpboccokdhpnaa
/-
  CHAPTER 3: the laws' own functions over bytes; numbers that are read.
-/
namespace Go.Proofs.Ythpboccokdhpnaa
open Go Go.Am Go.RowKit
set_option linter.unusedVariables false
set_option linter.unusedSimpArgs false
theorem setRowU (l : List Int) (k : Nat) (x : Int) (h : k < l.length) (s : Nat) (hs : s = 1) :
    (uvs l).set (Int.toNat (k : Int)) (((uvs l).getD (Int.toNat (k : Int)) []).take 0 ++ (uv x).cells ++ ((uvs l).getD (Int.toNat (k : Int)) []).drop (0 + s)) = uvs (l.set k x) := by
  subst hs
  rw [rowK uv1 l k h]
  show (l.map uv1).set k (uv1 x) = _
  rw [setM]
def marksB (k0 m : Nat) : List Int := (List.range m).map fun j : Nat => ((k0 + j : Nat) : Int) % 256
theorem marksB_len (k0 m : Nat) : (marksB k0 m).length = m := by simp [marksB]
theorem marksB_snoc (k0 m : Nat) : marksB k0 (m + 1) = marksB k0 m ++ [((k0 + m : Nat) : Int) % 256] := by simp [marksB, List.range_succ]
theorem marksB_at (k0 m j : Nat) (h : j < (marksB k0 m).length) : (marksB k0 m)[j] = ((k0 + j : Nat) : Int) % 256 := by simp [marksB]
def markPB (k0 : Nat) (zs : List Int) (k : Nat) : List Int := marksB k0 k ++ zs.drop k
theorem markPB_len (k0 : Nat) (zs : List Int) (k : Nat) (h : k ≤ zs.length) : (markPB k0 zs k).length = zs.length := by
  simp only [markPB, List.length_append, marksB_len, List.length_drop]; omega
theorem markPB_set (k0 : Nat) (zs : List Int) (k : Nat) (h : k < zs.length) : (markPB k0 zs k).set k (((k0 + k : Nat) : Int) % 256) = markPB k0 zs (k + 1) := by
  unfold markPB
  rw [marksB_snoc, List.set_append_right _ _ (by rw [marksB_len]; omega), marksB_len, Nat.sub_self, List.drop_eq_getElem_cons h, List.set_cons_zero, List.append_assoc]; rfl
theorem markPB_all (k0 : Nat) (zs : List Int) : markPB k0 zs zs.length = marksB k0 zs.length := by unfold markPB; rw [List.drop_length, List.append_nil]

end Go.Proofs.Ythpboccokdhpnaa
/-
  CHAPTER 3: numbers that are read, by the reading.
-/
namespace Go.Proofs.Ythpboccokdhpnaa
open Go Go.Am Go.RowKit
set_option linter.unusedVariables false
set_option linter.unusedSimpArgs false
abbrev rdO (d : List Int) (s : RS) : AObj := .box [ul d, iv s.1, bv s.2]
end Go.Proofs.Ythpboccokdhpnaa
