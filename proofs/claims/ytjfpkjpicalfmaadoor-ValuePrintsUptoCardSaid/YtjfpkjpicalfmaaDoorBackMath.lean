/-
  THE MATHEMATICS OF Print AND Read: what is printed is read again.
-/
import Derived.Test.YtjfpkjpicalfmaaDoorKit
import Derived.Test.YtjfpkjpicalfmaaDoorEsc
import Derived.Test.YtjfpkjpicalfmaaDoorWalkI
import Derived.Test.YtjfpkjpicalfmaaDoorWalkN
import Derived.Lib.ItoaNum
import Derived.Lib.ItoaMem
import Derived.Lib.ItoaLen
import Derived.Lib.ParseIntB
import Derived.Lib.Strings
namespace Go.Proofs.YtjfpkjpicalfmaaDoor
open Go.Lib

theorem dec_head (u : Nat) : ∃ c r, decDigits u = c :: r ∧ 48 ≤ c.toNat ∧ c.toNat ≤ 57 := by
  induction u using Nat.strongRecOn with
  | ind u ih =>
    rw [decDigits]
    split
    · rename_i h
      exact ⟨_, [], rfl, by simp; omega, by simp; omega⟩
    · rename_i h
      obtain ⟨c, r, e, h1, h2⟩ := ih (u / 10) (by omega)
      exact ⟨c, r ++ [UInt8.ofNat (48 + u % 10)], by rw [e]; rfl, h1, h2⟩
theorem pu_append (M : Nat) (l m : List UInt8) (acc v : Nat) (h : parseUintM M acc l = .ok v) : parseUintM M acc (l ++ m) = parseUintM M v m := by
  induction l generalizing acc with
  | nil => simp [parseUintM] at h; subst h; rfl
  | cons c l ih =>
    rw [parseUintM] at h
    rw [List.cons_append, parseUintM]
    split at h
    · rename_i h1
      rw [if_pos h1]
      split at h
      · cases h
      · rename_i h2
        rw [if_neg h2]
        split at h
        · cases h
        · rename_i h3
          rw [if_neg h3]
          exact ih _ h
    · cases h
theorem pu_dec (u : Nat) (hu : u ≤ 18446744073709551615) : parseUintM 18446744073709551615 0 (decDigits u) = .ok u := by
  induction u using Nat.strongRecOn with
  | ind u ih =>
    rw [decDigits]
    split
    · rename_i h
      have e : (UInt8.ofNat (48 + u)).toNat = 48 + u := by simp; omega
      rw [parseUintM, e, if_pos (by omega), if_neg (by omega), if_neg (by omega), parseUintM]
      congr 1
      omega
    · rename_i h
      have e : (UInt8.ofNat (48 + u % 10)).toNat = 48 + u % 10 := by simp; omega
      rw [pu_append _ _ _ _ _ (ih (u / 10) (by omega) (by omega)), parseUintM, e, if_pos (by omega), if_neg (by omega), if_neg (by omega), parseUintM]
      congr 1
      omega
theorem pi_itoa (n : Int) (h : In64 n) : parseIntB 64 (itoa n) = .ok n := by
  unfold In64 at h
  rcases Int.lt_or_le n 0 with hn | hn
  · obtain ⟨u, rfl⟩ : ∃ u : Nat, n = -(u : Int) := ⟨n.natAbs, by omega⟩
    have hd := pu_dec u (by omega)
    obtain ⟨c, r, e, _, _⟩ := dec_head u
    rw [itoa_neg u (by omega)]
    unfold parseIntB parseUintB
    have h45 : (45 : UInt8).toNat = 45 := rfl
    have hne : decDigits u ≠ [] := by rw [e]; simp
    simp only [h45, or_true, if_true, if_neg hne]
    rw [hd]
    simp
    omega
  · obtain ⟨u, rfl⟩ := Int.eq_ofNat_of_zero_le hn
    have hd := pu_dec u (by omega)
    rw [itoa_nonneg]
    obtain ⟨c, r, e, h1, h2⟩ := dec_head u
    rw [e] at hd ⊢
    unfold parseIntB parseUintB
    have a1 : ¬ c.toNat = 43 := by omega
    have a2 : ¬ c.toNat = 45 := by omega
    simp only [a1, a2, or_self, if_false]
    rw [if_neg (by simp)]
    rw [hd]
    simp
    omega
theorem itoa_head (n : Int) : ∃ c r, itoa n = c :: r ∧ (c.toNat = 45 ∨ (48 ≤ c.toNat ∧ c.toNat ≤ 57)) := by
  unfold itoa
  split
  · exact ⟨45, _, rfl, .inl rfl⟩
  · obtain ⟨c, r, e, h⟩ := dec_head n.toNat
    exact ⟨c, r, e, .inr h⟩

def bNull : ByteArray := ⟨#[110, 117, 108, 108]⟩
def bFalse : ByteArray := ⟨#[102, 97, 108, 115, 101]⟩
def bTrue : ByteArray := ⟨#[116, 114, 117, 101]⟩
/-- Print -/
def printB (v : V) : ByteArray :=
  if v.may then (if v.k = 0 then bNull else if v.k = 3 then ⟨(formatBool (veq v.k v.n v.s 3 1 ⟨#[]⟩)).toArray⟩ else if v.k = 1 then ⟨(itoa v.n).toArray⟩ else (⟨#[39]⟩ ++ esc v.s) ++ ⟨#[39]⟩) else ⟨#[]⟩
def printE (v : V) : Int := if v.may then 0 else 5
/-- the one value whose print these bytes might be -/
def nearT (l : List UInt8) : ByteArray := ⟨(replaceAll (trimSuffix (trimPrefix l [39]) [39]) [39, 39] [39]).toArray⟩
def nearI (l : List UInt8) : V := match parseIntB 64 l with | .ok v => ⟨1, v, ⟨#[]⟩⟩ | _ => ⟨0, 0, ⟨#[]⟩⟩
def nearV (s : ByteArray) : V :=
  if seq s bFalse || seq s bTrue then ⟨3, bit (seq s bTrue), ⟨#[]⟩⟩
  else if hasPrefix s.data.toList [39] then ⟨2, 0, nearT s.data.toList⟩
  else nearI s.data.toList
def readV (s : ByteArray) : V := if (nearV s).may && seq (printB (nearV s)) s then nearV s else ⟨0, 0, ⟨#[]⟩⟩
def readE (s : ByteArray) : Int := if (nearV s).may && seq (printB (nearV s)) s then 0 else 5

theorem seqd (a b : ByteArray) : seq a b = (a.data.toList == b.data.toList) := by
  unfold seq; rw [ByteArray.toList_eq, ByteArray.toList_eq]
theorem near_null : nearV bNull = ⟨0, 0, ⟨#[]⟩⟩ := by
  unfold nearV nearI
  rw [seqd, seqd, if_neg (by decide), if_neg (by decide)]
  rfl
theorem near_bool (q : Bool) : nearV ⟨(formatBool q).toArray⟩ = ⟨3, bit q, ⟨#[]⟩⟩ := by
  have e1 : (⟨(formatBool true).toArray⟩ : ByteArray) = bTrue := by decide
  have e0 : (⟨(formatBool false).toArray⟩ : ByteArray) = bFalse := by decide
  unfold nearV
  cases q
  · rw [e0, seqd, seqd, if_pos (by decide)]; rfl
  · rw [e1, seqd, seqd, if_pos (by decide)]; rfl
theorem near_int (n : Int) (h : In64 n) : nearV ⟨(itoa n).toArray⟩ = ⟨1, n, ⟨#[]⟩⟩ := by
  obtain ⟨c, r, e, hc⟩ := itoa_head n
  have c1 : ¬ c = 102 := by rintro rfl; simp at hc
  have c2 : ¬ c = 116 := by rintro rfl; simp at hc
  have c3 : ¬ c = 39 := by rintro rfl; simp at hc
  have c4 : ¬ 39 = c := fun k => c3 k.symm
  unfold nearV nearI
  rw [seqd, seqd]
  simp only [pi_itoa n h]
  rw [e]
  rw [if_neg (by simp [bFalse, bTrue, c1, c2]), if_neg (by simp [hasPrefix, c4])]
theorem near_text (s : ByteArray) : nearV ((⟨#[39]⟩ ++ esc s) ++ ⟨#[39]⟩) = ⟨2, 0, s⟩ := by
  have e : ((⟨#[39]⟩ ++ esc s) ++ (⟨#[39]⟩ : ByteArray)).data.toList = 39 :: (escL s.data.toList ++ [39]) := by
    unfold esc
    rw [repl_esc]
    simp [ByteArray.data_append]
  have e2 : replaceAll (trimSuffix (trimPrefix (39 :: (escL s.data.toList ++ [39])) [39]) [39]) [39, 39] [39] = s.data.toList := by
    have t1 : trimPrefix (39 :: (escL s.data.toList ++ [39])) [39] = escL s.data.toList ++ [39] := by simp [trimPrefix, hasPrefix]
    have t2 : trimSuffix (escL s.data.toList ++ [39]) [39] = escL s.data.toList := by
      unfold trimSuffix hasSuffix
      rw [if_pos (by rw [List.isSuffixOf_iff_suffix]; exact List.suffix_append _ _)]
      simp
    rw [t1, t2, repl_unesc _ _ (Nat.le_refl _), unesc_esc]
  unfold nearV nearT
  rw [seqd, seqd, e, if_neg (by simp [bFalse, bTrue]), if_pos (by simp [hasPrefix]), e2]
theorem near_print {v : V} (h : v.may = true) (hn : In64 v.n) : nearV (printB v) = v := by
  have hk := may_kind (show may v.k v.n v.s = true from h)
  unfold printB
  rw [if_pos h]
  obtain ⟨k, n, s⟩ := v
  have h' : may k n s = true := h
  simp only at hk hn ⊢
  by_cases h0 : k = 0
  · subst h0
    rw [if_pos rfl, near_null]
    simp [may, seq_eq] at h'
    rw [h'.1, h'.2]
  · rw [if_neg h0]
    by_cases h3 : k = 3
    · subst h3
      rw [if_pos rfl, near_bool]
      simp [may, seq_eq] at h'
      obtain ⟨rfl, h1 | h1⟩ := h'
      · subst h1; simp [veq, seq_refl, bit]
      · subst h1; simp [veq, seq_refl, bit]
    · rw [if_neg h3]
      by_cases h1 : k = 1
      · subst h1
        rw [if_pos rfl, near_int n hn]
        simp [may, seq_eq] at h'
        rw [h']
      · rw [if_neg h1]
        have h2 : k = 2 := by omega
        subst h2
        rw [near_text]
        simp [may] at h'
        rw [h'.1]
theorem read_print {v : V} (h : v.may = true) (hn : In64 v.n) : readV (printB v) = v ∧ readE (printB v) = 0 := by
  unfold readV readE
  rw [near_print h hn, h, seq_refl]
  exact ⟨rfl, rfl⟩
theorem print_read {s : ByteArray} (h : readE s = 0) : printE (readV s) = 0 ∧ seq (printB (readV s)) s = true := by
  unfold readE at h
  unfold readV printE
  split at h
  · rename_i hc
    rw [if_pos hc]
    rw [Bool.and_eq_true] at hc
    rw [if_pos hc.1]
    exact ⟨rfl, hc.2⟩
  · cases h
end Go.Proofs.YtjfpkjpicalfmaaDoor
