/-
  PLAIN FACTS for chapter 3: numbers and transactions that are read.
-/
import Derived.Test.YtdafmioegaelgaaM4
namespace Go.Am
open Go.RowKit
set_option linter.unusedVariables false
/-- The number whose encoding is at the beginning, and its bytes. -/
def rdV : List Int → Option (Int × Nat)
  | [] => none
  | b :: r => if b < 253 then some (b, 1) else if b = 253 then (match r with
    | l :: h :: _ => if l + 256 * h < 253 then none else some (l + 256 * h, 3)
    | _ => none) else none
def rvC (d : List Int) : List AV := match rdV d with
  | some (v, u) => [iv 0, iv v, iv (u : Nat)]
  | none => [iv 5, iv 0, iv 0]
/-- The specification's reader: where it is, whether it is wrong. -/
abbrev RS := Nat × Bool
def byteF (d : List Int) (s : RS) : Int × RS := match d[s.1]? with
  | some b => (b, (s.1 + 1, s.2))
  | none => (0, (s.1, true))
def varF (d : List Int) (s : RS) : Int × RS :=
  let x := byteF d s
  if x.1 < 253 then x else
  let y := byteF d x.2
  let z := byteF d y.2
  (y.1 + 256 * z.1, (z.2.1, z.2.2 || decide (x.1 ≠ 253) || decide (y.1 + 256 * z.1 < 253)))
theorem byteF_bd {d : List Int} (hd : ∀ z ∈ d, isU8 z) (s : RS) (hs : s.1 ≤ d.length) : 0 ≤ (byteF d s).1 ∧ (byteF d s).1 ≤ 255 ∧ s.1 ≤ (byteF d s).2.1 ∧ (byteF d s).2.1 ≤ d.length ∧ (byteF d s).2.1 ≤ s.1 + 1 := by
  unfold byteF
  cases h : d[s.1]? with
  | none => exact ⟨Int.le_refl 0, by show (0:Int) ≤ 255; decide, by dsimp only; omega, by dsimp only; omega, by dsimp only; omega⟩
  | some b =>
    obtain ⟨hlt, e⟩ := List.getElem?_eq_some_iff.1 h
    have := hd b (List.mem_of_getElem? h)
    unfold isU8 at this
    exact ⟨by dsimp only; omega, by dsimp only; omega, by dsimp only; omega, by dsimp only; omega, by dsimp only; omega⟩
theorem byteF_wrong {d : List Int} (s : RS) (h : s.2 = true) : (byteF d s).2.2 = true := by
  unfold byteF; cases d[s.1]? <;> simp [h]
theorem varF_bd {d : List Int} (hd : ∀ z ∈ d, isU8 z) (s : RS) (hs : s.1 ≤ d.length) : 0 ≤ (varF d s).1 ∧ (varF d s).1 ≤ 65535 ∧ s.1 ≤ (varF d s).2.1 ∧ (varF d s).2.1 ≤ d.length ∧ (varF d s).2.1 ≤ s.1 + 3 := by
  have hx := byteF_bd hd s hs
  have hy := byteF_bd hd (byteF d s).2 hx.2.2.2.1
  have hz := byteF_bd hd (byteF d (byteF d s).2).2 hy.2.2.2.1
  unfold varF
  dsimp only
  split
  · omega
  · exact ⟨by dsimp only; omega, by dsimp only; omega, by dsimp only; omega, by dsimp only; omega, by dsimp only; omega⟩
theorem varF_wrong {d : List Int} (s : RS) (h : s.2 = true) : (varF d s).2.2 = true := by
  have h1 := byteF_wrong (d := d) s h
  have h2 := byteF_wrong (d := d) _ h1
  have h3 := byteF_wrong (d := d) _ h2
  unfold varF
  dsimp only
  split
  · exact h1
  · simp [h3]
theorem byteF_at {d : List Int} {a : Nat} {b : Int} {r : List Int} (w : Bool) (h : d.drop a = b :: r) : byteF d (a, w) = (b, (a + 1, w)) ∧ d.drop (a + 1) = r := by
  have h1 : d[a]? = some b := by have := congrArg (·[0]?) h; simpa using this
  have h2 : d.drop (a + 1) = r := by have := congrArg (List.drop 1) h; simpa [Nat.add_comm] using this
  unfold byteF; simp only [h1]; exact ⟨trivial, h2⟩
theorem byteF_no {d : List Int} {a : Nat} (w : Bool) (h : d.drop a = []) : byteF d (a, w) = (0, (a, true)) := by
  have h1 : d[a]? = none := by have := congrArg (·[0]?) h; simpa using this
  unfold byteF; simp only [h1]
theorem varF_some {d : List Int} {a u : Nat} {v : Int} (w : Bool) (h : rdV (d.drop a) = some (v, u)) : varF d (a, w) = (v, (a + u, w)) := by
  cases hd : d.drop a with
  | nil => rw [hd] at h; cases h
  | cons b r =>
    rw [hd] at h
    obtain ⟨e1, e2⟩ := byteF_at w hd
    unfold varF
    simp only [e1]
    simp only [rdV] at h
    split at h
    · rename_i hb
      simp only [Option.some.injEq, Prod.mk.injEq] at h
      obtain ⟨rfl, rfl⟩ := h
      rw [if_pos hb]
    · rename_i hb
      rw [if_neg hb]
      split at h
      · rename_i hb2
        cases r with
        | nil => cases h
        | cons l r =>
          cases r with
          | nil => cases h
          | cons hh r =>
            obtain ⟨f1, f2⟩ := byteF_at w e2
            obtain ⟨g1, g2⟩ := byteF_at w f2
            simp only [f1, g1]
            dsimp only at h
            split at h
            · cases h
            · rename_i h3
              simp only [Option.some.injEq, Prod.mk.injEq] at h
              obtain ⟨rfl, rfl⟩ := h
              simp [hb2, h3]
      · cases h
theorem varF_none {d : List Int} {a : Nat} (w : Bool) (h : rdV (d.drop a) = none) : (varF d (a, w)).2.2 = true := by
  cases hd : d.drop a with
  | nil =>
    have e1 := byteF_no w hd
    unfold varF
    simp only [e1]
    rw [if_pos (by decide)]
  | cons b r =>
    rw [hd] at h
    obtain ⟨e1, e2⟩ := byteF_at w hd
    unfold varF
    simp only [e1]
    simp only [rdV] at h
    split at h
    · cases h
    · rename_i hb
      rw [if_neg hb]
      split at h
      · rename_i hb2
        cases r with
        | nil =>
          have f1 := byteF_no w e2
          simp only [f1]
          rw [byteF_wrong (a + 1, true) rfl]; rfl
        | cons l r =>
          obtain ⟨f1, f2⟩ := byteF_at w e2
          simp only [f1]
          cases r with
          | nil =>
            have g1 := byteF_no w f2
            simp only [g1]; rfl
          | cons hh r =>
            obtain ⟨g1, g2⟩ := byteF_at w f2
            simp only [g1]
            dsimp only at h
            split at h
            · rename_i h3; simp [h3]
            · cases h
      · rename_i hb2
        dsimp only
        simp [hb2]
theorem rdV_len {d : List Int} {v : Int} {u : Nat} (h : rdV d = some (v, u)) : 1 ≤ u ∧ u ≤ 3 ∧ u ≤ d.length := by
  cases d with
  | nil => cases h
  | cons b r =>
    simp only [rdV] at h
    split at h
    · simp only [Option.some.injEq, Prod.mk.injEq] at h; obtain ⟨rfl, rfl⟩ := h; simp
    · split at h
      · cases r with
        | nil => cases h
        | cons l r =>
          cases r with
          | nil => cases h
          | cons hh r =>
            dsimp only at h
            split at h
            · cases h
            · simp only [Option.some.injEq, Prod.mk.injEq] at h; obtain ⟨rfl, rfl⟩ := h; simp
      · cases h
theorem rdV_bd {d : List Int} (hd : ∀ z ∈ d, isU8 z) {v : Int} {u : Nat} (h : rdV d = some (v, u)) : inR 0 65535 v := by
  have := varF_some (d := d) (a := 0) false (by simpa using h)
  have hb := varF_bd hd (0, false) (Nat.zero_le _)
  rw [this] at hb
  exact ⟨hb.1, hb.2.1⟩
/-- What is read is what the encoding says. -/
theorem rdV_put {d : List Int} (hd : ∀ z ∈ d, isU8 z) {v : Int} {u : Nat} (h : rdV d = some (v, u)) : putN v = d.take u := by
  cases d with
  | nil => cases h
  | cons b r =>
    simp only [rdV] at h
    split at h
    · rename_i hb
      simp only [Option.some.injEq, Prod.mk.injEq] at h; obtain ⟨rfl, rfl⟩ := h
      unfold putN; rw [if_pos hb]; simp
    · split at h
      · rename_i hb
        cases r with
        | nil => cases h
        | cons l r =>
          cases r with
          | nil => cases h
          | cons hh r =>
            dsimp only at h
            split at h
            · cases h
            · rename_i h3
              simp only [Option.some.injEq, Prod.mk.injEq] at h; obtain ⟨rfl, rfl⟩ := h
              have h1 := hd l (by simp)
              have h2 := hd hh (by simp)
              unfold isU8 at h1 h2
              unfold putN; rw [if_neg h3]
              simp only [List.take_succ_cons, List.take_zero]
              rw [show (l + 256 * hh) % 256 = l by omega, show (l + 256 * hh) / 256 = hh by omega, hb]
      · cases h
theorem put_rdV {v : Int} (h : inR 0 65535 v) (r : List Int) : rdV (putN v ++ r) = some (v, (putN v).length) := by
  unfold inR at h
  unfold putN
  split
  · rename_i hv; simp [rdV, hv]
  · rename_i hv
    have e : v % 256 + 256 * (v / 256) = v := by omega
    simp [rdV, e, hv]
end Go.Am
