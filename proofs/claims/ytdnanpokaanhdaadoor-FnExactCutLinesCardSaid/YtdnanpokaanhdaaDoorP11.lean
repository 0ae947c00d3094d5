/-
  CHAPTER 3: numbers, by the reading.
-/
import Derived.Test.YtdnanpokaanhdaaDoorP3
import Derived.Test.YtdnanpokaanhdaaDoorM1
import Derived.Test.YtdnanpokaanhdaaDoorAmG
namespace Go.Proofs.YtdnanpokaanhdaaDoor
open Go Go.Am Go.RowKit
set_option linter.unusedVariables false
set_option linter.unusedSimpArgs false
theorem flat_vals {α : Type} (g : α → Value) (zs : List α) : ∀ r ∈ zs.map (fun z => [AV.val (g z)]), ∀ c ∈ r, ∃ u, c = AV.val u := by
  intro r hr c hc
  obtain ⟨z, _, rfl⟩ := List.mem_map.1 hr
  simp at hc
  exact ⟨_, hc⟩
abbrev pkh (i j : Nat) (s : List Int) : Hp := [(i, .box [.own j s.length]), (j, .list 5 1 (uvs s))]
theorem takeU (s : List Int) : List.take s.length (uvs s) = uvs s := List.take_of_length_le (by simp)
end Go.Proofs.YtdnanpokaanhdaaDoor
/-
  CHAPTER 3: the laws' own functions over bytes; numbers that are read.
-/
namespace Go.Proofs.YtdnanpokaanhdaaDoor
open Go Go.Am Go.RowKit
set_option linter.unusedVariables false
set_option linter.unusedSimpArgs false
theorem setRowU (l : List Int) (k : Nat) (x : Int) (h : k < l.length) (s : Nat) (hs : s = 1) :
    (uvs l).set (Int.toNat (k : Int)) (((uvs l).getD (Int.toNat (k : Int)) []).take 0 ++ (uv x).cells ++ ((uvs l).getD (Int.toNat (k : Int)) []).drop (0 + s)) = uvs (l.set k x) := by
  subst hs
  rw [rowK uv1 l k h]
  show (l.map uv1).set k (uv1 x) = _
  rw [setM]
def marksB (k0 m : Nat) : List Int := (List.range m).map fun j : Nat => ((k0 + j : Nat) : Int) % 256
theorem marksB_len (k0 m : Nat) : (marksB k0 m).length = m := by simp [marksB]
theorem marksB_snoc (k0 m : Nat) : marksB k0 (m + 1) = marksB k0 m ++ [((k0 + m : Nat) : Int) % 256] := by simp [marksB, List.range_succ]
theorem marksB_at (k0 m j : Nat) (h : j < (marksB k0 m).length) : (marksB k0 m)[j] = ((k0 + j : Nat) : Int) % 256 := by simp [marksB]
def markPB (k0 : Nat) (zs : List Int) (k : Nat) : List Int := marksB k0 k ++ zs.drop k
theorem markPB_len (k0 : Nat) (zs : List Int) (k : Nat) (h : k ≤ zs.length) : (markPB k0 zs k).length = zs.length := by
  simp only [markPB, List.length_append, marksB_len, List.length_drop]; omega
theorem markPB_set (k0 : Nat) (zs : List Int) (k : Nat) (h : k < zs.length) : (markPB k0 zs k).set k (((k0 + k : Nat) : Int) % 256) = markPB k0 zs (k + 1) := by
  unfold markPB
  rw [marksB_snoc, List.set_append_right _ _ (by rw [marksB_len]; omega), marksB_len, Nat.sub_self, List.drop_eq_getElem_cons h, List.set_cons_zero, List.append_assoc]; rfl
theorem markPB_all (k0 : Nat) (zs : List Int) : markPB k0 zs zs.length = marksB k0 zs.length := by unfold markPB; rw [List.drop_length, List.append_nil]

theorem eqByteS_ret (a b : List Int) (n : Nat) (hl : a.length ≤ 1048576) : Ret Tryd.prog 8 [ul a, ul b] [] n true (Is (bv (decide (a = b))) [] n) := by
  refine Ret.fn ttOk Tryd.func8 rfl Tryd.call8 rfl rfl ?_
  refine Goes ?_
  repeat' first | refine W2.m ?_ ?_ | refine W1.m fun h => ?_ | fail
  · refine FinOk.pure rfl rfl rfl ⟨?_, rfl, rfl⟩
    refine bvI ?_
    have : a ≠ b := fun e => h (by rw [e])
    simp [this]
  · simp only [List.length_map] at h
    have hab : a.length = b.length := by omega
    refine LoopP.go (fun k : Nat => k ≤ a.length ∧ a.take k = b.take k) (fun k => ⟨[(0, ul a), (1, ul b), (5, iv k)], [], 0⟩) (fun k => a.length - k) 0 ⟨Nat.zero_le _, rfl⟩ (Weak.of rfl rfl ktA trivial) ?_
    intro k ⟨hk, hp⟩
    refine Goes ?_
    repeat' first | refine W2.m ?_ ?_ | refine W1.m fun h => ?_ | fail
    · simp only [List.length_map] at h
      have hka : k < a.length := by omega
      have hkb : k < b.length := by omega
      rw [rowK uv1 a k (by omega)]
      refine ⟨by (first | exact ⟨by omega, by omega, rfl⟩ | (simp only [List.length_map]; exact ⟨by omega, by omega, rfl⟩)), ?_⟩
      refine Goes ?_
      repeat' first | refine W2.m ?_ ?_ | refine W1.m fun h => ?_ | fail
      rw [rowK uv1 b k (by omega)]
      refine ⟨by (first | exact ⟨by omega, by omega, rfl⟩ | (simp only [List.length_map]; exact ⟨by omega, by omega, rfl⟩)), ?_⟩
      refine Goes ?_
      repeat' first | refine W2.m ?_ ?_ | refine W1.m fun h => ?_ | fail
      · refine FinOk.pure rfl rfl rfl ⟨?_, rfl, rfl⟩
        refine bvI ?_
        have : a ≠ b := fun e => h (by subst e; rfl)
        simp [this]
      · have he : a[k] = b[k] := by omega
        exact ⟨k + 1, ⟨by omega, by rw [takeS a k hka, takeS b k hkb, hp, he]⟩, by omega, (Weak.of rfl rfl ktA trivial)⟩
    · simp only [List.length_map] at h
      refine FinOk.pure rfl rfl rfl ⟨?_, rfl, rfl⟩
      refine bvI ?_
      rw [List.take_of_length_le (by omega), List.take_of_length_le (by omega)] at hp
      simp [hp]
theorem eqByteS_yes (a : List Int) (n : Nat) (hl : a.length ≤ 1048576) : Ret Tryd.prog 8 [ul a, ul a] [] n true (Is (bv true) [] n) := by
  have := eqByteS_ret a a n hl
  simpa using this
theorem toByteS_ret (zs : List Int) (n : Nat) (hl : zs.length ≤ 1048576) : Ret Tryd.prog 5 [ul zs] [] n true (Is (.own n zs.length) [(n, .list 5 1 (uvs zs))] (n + 1)) := by
  refine Ret.fn ttOk Tryd.func5 rfl Tryd.call5 rfl rfl ?_
  refine Goes ?_
  repeat' first | refine W2.m ?_ ?_ | refine W1.m fun h => ?_ | fail
  rw [List.length_map]
  refine ⟨⟨by omega, by omega, by omega, by show _ * 1 ≤ _; omega⟩, ?_⟩
  refine Goes ?_
  repeat' first | refine W2.m ?_ ?_ | refine W1.m fun h => ?_ | fail
  refine LoopP.go (fun k : Nat => k ≤ zs.length) (fun k => ⟨[(0, ul zs), (3, .own 0 zs.length), (4, iv k)], [(0, .list 5 1 (uvs (fillZ zs k)))], 1⟩) (fun k => zs.length - k) 0 (Nat.zero_le _) ?_ ?_
  · refine Weak.of rfl rfl ktA ⟨⟨leafO ?_, rfl, rfl⟩, trivial⟩
    rw [fillZ_zero]; exact replM uv1 _ _
  intro k hk
  have hfl := fillZ_len zs k hk
  refine Goes ?_
  repeat' first | refine W2.m ?_ ?_ | refine W1.m fun h => ?_ | fail
  · simp only [List.length_map] at h
    have hlt : k < zs.length := by omega
    rw [rowK uv1 zs k (by omega)]
    refine ⟨by (first | exact ⟨by omega, by omega, rfl⟩ | (simp only [List.length_map]; exact ⟨by omega, by omega, rfl⟩)), ?_⟩
    refine Goes ?_
    repeat' first | refine W2.m ?_ ?_ | refine W1.m fun h => ?_ | fail
    refine ⟨by simp only [List.length_map]; omega, ?_⟩
    refine Goes ?_
    repeat' first | refine W2.m ?_ ?_ | refine W1.m fun h => ?_ | fail
    refine ⟨k + 1, by omega, by omega, Weak.of rfl rfl ktA ⟨⟨leafO ?_, rfl, rfl⟩, trivial⟩⟩
    rw [setRowU _ _ _ (by omega) _ rfl, fillZ_set zs k hlt]
  · simp only [List.length_map] at h
    obtain rfl : k = zs.length := by omega
    rw [fillZ_all]
    refine FinOk.mk' [0] rfl rfl rfl rfl rfl rfl rfl ⟨?_, ?_, rfl⟩
    · rfl
    · rfl
theorem markByteS_ret (zs : List Int) (i k0 n : Nat) (hl : zs.length ≤ 1048576) (hk : k0 ≤ 1099511627776) : Ret Tryd.prog 9 [.own i zs.length, iv k0] [(i, .list 5 1 (uvs zs))] n true (Is (iv ((k0 + zs.length : Nat) : Int)) [(i, .list 5 1 (uvs (marksB k0 zs.length)))] n) := by
  refine Ret.of_run (tt := tt) ttOk Tryd.func9 rfl Tryd.call9 [i] [.list 5 1 (uvs zs)] [.own 0 zs.length, iv k0] true n _ rfl (nodup1 i) (by exact Nat.le_of_ble_eq_true rfl) rfl rfl ?_
  refine Goes ?_
  repeat' first | refine W2.m ?_ ?_ | refine W1.m fun h => ?_ | fail
  refine LoopP.go (fun k : Nat => k ≤ zs.length) (fun k => ⟨[(0, .own 0 zs.length), (1, iv ((k0 + k : Nat) : Int)), (5, iv k)], [(0, .list 5 1 (uvs (markPB k0 zs k)))], 1⟩) (fun k => zs.length - k) 0 (Nat.zero_le _) ?_ ?_
  · exact (Weak.of rfl rfl ktA ktA)
  intro k hk'
  have hml := markPB_len k0 zs k hk'
  refine Goes ?_
  repeat' first | refine W2.m ?_ ?_ | refine W1.m fun h => ?_ | fail
  · have hlt : k < zs.length := by omega
    refine ⟨by simp only [List.length_map]; omega, ?_⟩
    refine Goes ?_
    repeat' first | refine W2.m ?_ ?_ | refine W1.m fun h => ?_ | fail
    refine ⟨k + 1, by omega, by omega, Weak.of rfl rfl ktA ⟨⟨leafO ?_, rfl, rfl⟩, trivial⟩⟩
    rw [IntKind.wrap_u8, setRowU _ _ _ (by omega) _ rfl, markPB_set k0 zs k hlt]
  · obtain rfl : k = zs.length := by omega
    rw [markPB_all]
    refine FinOk.mk' [] rfl rfl rfl rfl rfl rfl rfl ⟨rfl, rfl, rfl⟩
theorem markByteS_nil (k0 : Int) (n : Nat) : Ret Tryd.prog 9 [nl, iv k0] [] n true (Is (iv k0) [] n) := by
  refine Ret.fn ttOk Tryd.func9 rfl Tryd.call9 rfl rfl ?_
  refine Goes ?_
  repeat' first | refine W2.m ?_ ?_ | refine W1.m fun h => ?_ | fail
  refine LoopP.go (fun _ : Unit => True) (fun _ => ⟨[(0, nl), (1, iv k0), (5, iv 0)], [], 0⟩) (fun _ => 0) () trivial (Weak.of rfl rfl ktA trivial) ?_
  intro _ _
  refine Goes ?_
  repeat' first | refine W2.m ?_ ?_ | refine W1.m fun h => ?_ | fail
  refine FinOk.pure rfl rfl rfl ⟨?_, rfl, rfl⟩
  rfl
end Go.Proofs.YtdnanpokaanhdaaDoor
/-
  CHAPTER 3: numbers that are read, by the reading.
-/
namespace Go.Proofs.YtdnanpokaanhdaaDoor
open Go Go.Am Go.RowKit
set_option linter.unusedVariables false
set_option linter.unusedSimpArgs false
abbrev rdO (d : List Int) (s : RS) : AObj := .box [ul d, iv s.1, bv s.2]
end Go.Proofs.YtdnanpokaanhdaaDoor
