/-
  TEXTS IN QUOTES, as the document reads them. No program.
-/
import Derived.Test.YtjfpkjpicalfmaaDoorBytes
import Derived.Test.YtjfpkjpicalfmaaDoorNear
namespace Go.Proofs.YtjfpkjpicalfmaaDoor
open Go.RowKit Go.Sort Go.Lib

/-- each 39 twice -/
def escN : List Nat → List Nat
  | [] => []
  | x :: l => if x = 39 then 39 :: 39 :: escN l else x :: escN l
def unQ : List Nat → Option (List Nat)
  | [] => some []
  | [x] => if x = 39 then none else some [x]
  | x :: y :: l => if x = 39 then (if y = 39 then (unQ l).map (39 :: ·) else none) else (unQ (y :: l)).map (x :: ·)
theorem unQ_cons {x : Nat} (hx : x ≠ 39) (l : List Nat) : unQ (x :: l) = (unQ l).map (x :: ·) := by
  cases l with
  | nil => simp [unQ, hx]
  | cons y l => simp only [unQ, if_neg hx]
theorem unQ_two (l : List Nat) : unQ (39 :: 39 :: l) = (unQ l).map (39 :: ·) := by simp [unQ]
theorem unQ_bad {y : Nat} (hy : y ≠ 39) (l : List Nat) : unQ (39 :: y :: l) = none := by simp [unQ, hy]
theorem unQ_one : unQ [39] = none := by simp [unQ]
theorem unQ_esc (l : List Nat) : unQ (escN l) = some l := by
  induction l with
  | nil => rfl
  | cons x l ih =>
    by_cases hx : x = 39
    · subst hx
      simp [escN, unQ_two, ih]
    · simp only [escN, if_neg hx]
      rw [unQ_cons hx, ih]
      rfl
theorem esc_unQ (l t : List Nat) (h : unQ l = some t) : l = escN t := by
  induction l using unQ.induct generalizing t with
  | case1 => simp [unQ] at h; subst h; rfl
  | case2 => simp [unQ] at h
  | case3 x hx =>
    simp [unQ, hx] at h
    subst h
    simp [escN, hx]
  | case4 l ih =>
    simp [unQ] at h
    obtain ⟨a, ha, rfl⟩ := h
    rw [ih a ha]
    simp [escN]
  | case5 y l hy => simp [unQ, hy] at h
  | case6 x y l hx ih =>
    simp only [unQ, if_neg hx, Option.map_eq_some_iff] at h
    obtain ⟨a, ha, rfl⟩ := h
    rw [ih a ha]
    simp [escN, hx]
theorem escN_append (l m : List Nat) : escN (l ++ m) = escN l ++ escN m := by
  induction l with
  | nil => rfl
  | cons x l ih =>
    simp only [List.cons_append, escN]
    split <;> simp [ih]
theorem escN_len (l : List Nat) : (escN l).length ≤ 2 * l.length := by
  induction l with
  | nil => simp [escN]
  | cons x l ih => simp only [escN]; split <;> simp <;> omega
theorem escN_lt (l : List Nat) (h : ∀ x ∈ l, x < 256) : ∀ x ∈ escN l, x < 256 := by
  induction l with
  | nil => simp [escN]
  | cons y l ih =>
    intro x hx
    have hl := ih (fun z hz => h z (by simp [hz])) x
    have hy := h y (by simp)
    simp only [escN] at hx
    split at hx
    · simp only [List.mem_cons] at hx
      rcases hx with rfl | rfl | hx
      · omega
      · omega
      · exact hl hx
    · simp only [List.mem_cons] at hx
      rcases hx with rfl | hx
      · exact hy
      · exact hl hx
theorem escL_N (l : List UInt8) : (escL l).map UInt8.toNat = escN (l.map UInt8.toNat) := by
  induction l with
  | nil => rfl
  | cons c l ih =>
    simp only [escL, List.map_cons, escN]
    by_cases hc : c = 39
    · subst hc; simp [ih]
    · have : c.toNat ≠ 39 := fun e => hc (UInt8.toNat_inj.1 e)
      simp [hc, this, ih]
theorem sb_esc (t : ByteArray) : sb (esc t) = escN (sb t) := by
  unfold sb esc
  rw [repl_esc]
  simp [escL_N]
theorem sb_app (a b : ByteArray) : sb (a ++ b) = sb a ++ sb b := by
  unfold sb
  simp
theorem sb_inj {a b : ByteArray} (h : sb a = sb b) : a = b := by rw [← bs_sb a, h, bs_sb]
/-- a text in quotes -/
def quoted (t : ByteArray) : List Nat := 39 :: (escN (sb t) ++ [39])
theorem print_t (t : ByteArray) (h : t.size ≤ 64) : sb (printB ⟨2, 0, t⟩) = quoted t := by
  have hm : (⟨2, 0, t⟩ : V).may = true := by simp [V.may, may]; exact h
  have hp : printB ⟨2, 0, t⟩ = (⟨#[39]⟩ ++ esc t) ++ ⟨#[39]⟩ := by
    unfold printB
    rw [if_pos hm]
    simp
  rw [hp, sb_app, sb_app, sb_esc]
  rfl
end Go.Proofs.YtjfpkjpicalfmaaDoor
