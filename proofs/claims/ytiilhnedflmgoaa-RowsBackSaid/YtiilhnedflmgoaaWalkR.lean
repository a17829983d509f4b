/-
  THE WALK OF THE document's read.
-/
import Derived.Test.YtiilhnedflmgoaaWalkQ
namespace Go.Proofs.Ytiilhnedflmgoaa
open Go.RowKit Go.Sort
attribute [local go_sem high] run_eqs

/-- what the document's read answers -/
def RRd (w : World) (k : Int) (s : ByteArray) (e : Ending) (w' : World) : Prop :=
  Below w.heap.size w w' ∧ ∃ (v : V) (m : Nat), e = .returned (.tuple #[.agg #[.int .i64 v.k, .int .i64 v.n, .string v.s], .int .i64 (m : Int)]) ∧
    ((m = 0 ∧ rdV k (sb s) = none) ∨ (0 < m ∧ m ≤ s.size ∧ rdV k (sb s) = some (v, (sb s).drop m) ∧ VOk v))
theorem rdV3_nil : rdV 3 [] = none := rfl
theorem rdV3_cons (x : Nat) (r : List Nat) : rdV 3 (x :: r) = if x ≤ 1 then some (⟨3, (x : Int), ⟨#[]⟩⟩, r) else none := rfl
theorem rdV1 (l : List Nat) : rdV 1 l = match Cd.front l with | some (x, n) => some (⟨1, Cd.unzz x, ⟨#[]⟩⟩, l.drop n) | none => none := rfl
theorem rdV2 (l : List Nat) : rdV 2 l = match Cd.text l 64 with | some (t, n) => some (⟨2, 0, bs t⟩, l.drop n) | none => none := rfl
theorem drop_at (s : ByteArray) (p : Nat) (h : p < s.size) : (sb s).drop p = s[p].toNat :: (sb s).drop (p + 1) := by
  have hl : p < (sb s).length := by rw [sb_len]; exact h
  rw [List.drop_eq_getElem_cons hl]
  congr 1
  simp only [sb, List.getElem_map, Array.getElem_toList]
  rfl
theorem extract_sb (s : ByteArray) (p k : Nat) (h : p + k ≤ s.size) : sb (s.extract p (p + k)) = ((sb s).drop p).take k ∧ (s.extract p (p + k)).size = k := by
  have hz : (s.extract p (p + k)).size = k := by simp [ByteArray.size_extract]; omega
  refine ⟨?_, hz⟩
  unfold sb
  rw [← List.map_drop, ← List.map_take]
  congr 1
  rw [ByteArray.data_extract, Array.toList_extract]
  simp [List.extract]
set_option maxRecDepth 100000 in
set_option maxHeartbeats 4000000 in
theorem rread3 (s : ByteArray) (hs : s.size ≤ 9223372036854775807) (w : World) : Calls Try.prog 38 #[.int .i64 3, .string s] w (RRd w 3 s) := by
  by_cases h0 : s.size = 0
  · have e := size_nil h0
    subst e
    have hq : seq ⟨#[]⟩ ⟨#[]⟩ = true := seq_refl _
    clear h0 hs
    go_enter Try.func38, Try.ntmps38
    go_wp2
    refine bodyPost_ret (v := .tuple #[.agg #[.int .i64 0, .int .i64 0, .string ⟨#[]⟩], .int .i64 0]) (by simp [results, Try.results38, go_sem]) rfl ?_
    exact ⟨(Below.refl _ _).alloc (Nat.le_refl _) _, v0, 0, rfl, Or.inl ⟨rfl, rfl⟩⟩
  · have hq : seq s ⟨#[]⟩ = false := by
      rw [Bool.eq_false_iff]
      intro e
      rw [seq_eq] at e
      subst e
      exact h0 rfl
    have hp : 0 < s.size := by omega
    have hd := drop_at s 0 hp
    rw [List.drop_zero] at hd
    have HD := Lib.hid hd
    clear hd h0
    have hby := s[0].toNat_lt
    obtain ⟨b, hb⟩ : ∃ b, b = s[0].toNat := ⟨_, rfl⟩
    rw [← hb] at HD hby
    replace hb := hb.symm
    by_cases h1 : b ≤ 1
    · have h1d : decide ((b : Int) > 1) = false := decide_eq_false (by omega)
      go_enter Try.func38, Try.ntmps38
      go_wp2
      refine bodyPost_ret (v := .tuple #[.agg #[.int .i64 3, .int .i64 (b : Int), .string ⟨#[]⟩], .int .i64 1]) (by simp [results, Try.results38, go_sem]) rfl ?_
      refine ⟨(Below.refl _ _).alloc (Nat.le_refl _) _, ⟨3, (b : Int), ⟨#[]⟩⟩, 1, rfl, Or.inr ⟨by omega, by omega, ?_, ⟨by simp [N64]; omega, Nat.zero_le _⟩⟩⟩
      rw [HD.out, rdV3_cons, if_pos h1]
      rfl
    · have h1d : decide ((b : Int) > 1) = true := decide_eq_true (by omega)
      go_enter Try.func38, Try.ntmps38
      go_wp2
      refine bodyPost_ret (v := .tuple #[.agg #[.int .i64 0, .int .i64 0, .string ⟨#[]⟩], .int .i64 0]) (by simp [results, Try.results38, go_sem]) rfl ?_
      refine ⟨(Below.refl _ _).alloc (Nat.le_refl _) _, v0, 0, rfl, Or.inl ⟨rfl, ?_⟩⟩
      rw [HD.out, rdV3_cons, if_neg h1]
set_option maxRecDepth 100000 in
set_option maxHeartbeats 4000000 in
theorem rread1 (s : ByteArray) (hs : s.size ≤ 9223372036854775807) (w : World) : Calls Try.prog 38 #[.int .i64 1, .string s] w (RRd w 1 s) := by
  have HC := Lib.hid (fun W => number_any s hs W)
  obtain ⟨x, m, hxm, hcase⟩ := frontV_eq (sb s)
  rw [hxm] at HC
  clear hxm
  rcases hcase with ⟨hn, rfl, rfl⟩ | ⟨hn, hm0, hml, hx⟩
  · have HN : Hid (rdV 1 (sb s) = none) := by show _ = _; rw [rdV1, hn]
    clear hn
    go_enter Try.func38, Try.ntmps38
    go_wp2_with (go_at_call 64; refine (HC.out _).mono ?_; rintro e w' ⟨rfl, rfl⟩)
    refine bodyPost_ret (v := .tuple #[.agg #[.int .i64 0, .int .i64 0, .string ⟨#[]⟩], .int .i64 0]) (by simp [results, Try.results38, go_sem]) rfl ?_
    exact ⟨(Below.refl _ _).alloc (Nat.le_refl _) _, v0, 0, rfl, Or.inl ⟨rfl, HN.out⟩⟩
  · rw [sb_len] at hml
    have HN : Hid (rdV 1 (sb s) = some (⟨1, Cd.unzz x, ⟨#[]⟩⟩, (sb s).drop m)) := by show _ = _; rw [rdV1, hn]
    have hub := Cd.unzz_bd x hx
    have hz1 : ((m : Int) == 0) = false := beq_false_of_ne (by omega)
    obtain ⟨h, hh⟩ : ∃ h, h = x / 2 := ⟨_, rfl⟩
    have hdiv : (x : Int) / 2 = (h : Int) := by omega
    have hh63 : h < 9223372036854775808 := by omega
    clear hn
    by_cases hodd : x % 2 = 1
    · have hm2 : (x : Int) % 2 = 1 := by omega
      have hu : Cd.unzz x = -(h : Int) - 1 := by unfold Cd.unzz; rw [if_neg (by omega)]; omega
      have q1 : IntKind.i64.wrap (h : Int) = (h : Int) := IntWalk.i64_in _ (by omega)
      have q2 : wrap64 (-(h : Int)) = -(h : Int) := by simp only [wrap64]; omega
      have q3 : wrap64 (-(h : Int) - 1) = Cd.unzz x := by simp only [wrap64]; omega
      have q4 : IntKind.i64.wrap (-(h : Int)) = -(h : Int) := IntWalk.i64_in _ (by omega)
      have q5 : IntKind.i64.wrap (-(h : Int) - 1) = Cd.unzz x := by rw [IntWalk.i64_in _ (by omega)]; exact hu.symm
      generalize Cd.unzz x = z at *
      clear hu hodd hh
      go_enter Try.func38, Try.ntmps38
      go_wp2_with (go_at_call 64; refine (HC.out _).mono ?_; rintro e w' ⟨rfl, rfl⟩)
      refine bodyPost_ret (v := .tuple #[.agg #[.int .i64 1, .int .i64 z, .string ⟨#[]⟩], .int .i64 (m : Int)]) (by simp [results, Try.results38, go_sem]) rfl ?_
      exact ⟨(Below.refl _ _).alloc (Nat.le_refl _) _, ⟨1, z, ⟨#[]⟩⟩, m, rfl, Or.inr ⟨hm0, hml, HN.out, ⟨hub, Nat.zero_le _⟩⟩⟩
    · have hm2 : (x : Int) % 2 = 0 := by omega
      have hu : Cd.unzz x = (h : Int) := by unfold Cd.unzz; rw [if_pos (by omega), hh]
      have q1 : IntKind.i64.wrap (h : Int) = (h : Int) := IntWalk.i64_in _ (by omega)
      rw [hu] at HN hub
      clear hu hodd hh
      go_enter Try.func38, Try.ntmps38
      go_wp2_with (go_at_call 64; refine (HC.out _).mono ?_; rintro e w' ⟨rfl, rfl⟩)
      refine bodyPost_ret (v := .tuple #[.agg #[.int .i64 1, .int .i64 (h : Int), .string ⟨#[]⟩], .int .i64 (m : Int)]) (by simp [results, Try.results38, go_sem]) rfl ?_
      exact ⟨(Below.refl _ _).alloc (Nat.le_refl _) _, ⟨1, (h : Int), ⟨#[]⟩⟩, m, rfl, Or.inr ⟨hm0, hml, HN.out, ⟨hub, Nat.zero_le _⟩⟩⟩
set_option maxRecDepth 100000 in
set_option maxHeartbeats 4000000 in
theorem rread2 (s : ByteArray) (hs : s.size ≤ 9223372036854775000) (w : World) : Calls Try.prog 38 #[.int .i64 2, .string s] w (RRd w 2 s) := by
  have HC := Lib.hid (fun W => number_any s (by omega) W)
  obtain ⟨x, m, hxm, hcase⟩ := frontV_eq (sb s)
  rw [hxm] at HC
  clear hxm
  rcases hcase with ⟨hn, rfl, rfl⟩ | ⟨hn, hm0, hml, hx⟩
  · have HN : Hid (rdV 2 (sb s) = none) := by show _ = _; rw [rdV2, text_none hn]
    clear hn
    go_enter Try.func38, Try.ntmps38
    go_wp2_with (go_at_call 64; refine (HC.out _).mono ?_; rintro e w' ⟨rfl, rfl⟩)
    refine bodyPost_ret (v := .tuple #[.agg #[.int .i64 0, .int .i64 0, .string ⟨#[]⟩], .int .i64 0]) (by simp [results, Try.results38, go_sem]) rfl ?_
    exact ⟨(Below.refl _ _).alloc (Nat.le_refl _) _, v0, 0, rfl, Or.inl ⟨rfl, HN.out⟩⟩
  · rw [sb_len] at hml
    have hz1 : ((m : Int) == 0) = false := beq_false_of_ne (by omega)
    by_cases h64 : 64 < x
    · have HN : Hid (rdV 2 (sb s) = none) := by show _ = _; rw [rdV2, text_no hn (by omega)]
      have h64d : decide ((x : Int) > 64) = true := decide_eq_true (by omega)
      clear hn
      go_enter Try.func38, Try.ntmps38
      go_wp2_with (go_at_call 64; refine (HC.out _).mono ?_; rintro e w' ⟨rfl, rfl⟩)
      refine bodyPost_ret (v := .tuple #[.agg #[.int .i64 0, .int .i64 0, .string ⟨#[]⟩], .int .i64 0]) (by simp [results, Try.results38, go_sem]) rfl ?_
      exact ⟨(Below.refl _ _).alloc (Nat.le_refl _) _, v0, 0, rfl, Or.inl ⟨rfl, HN.out⟩⟩
    · have h64d : decide ((x : Int) > 64) = false := decide_eq_false (by omega)
      have q1 : IntKind.i64.wrap (x : Int) = (x : Int) := IntWalk.i64_in _ (by omega)
      by_cases hfit : m + x ≤ s.size
      · have hd : decide ((x : Int) > (s.size : Int) - (m : Int)) = false := decide_eq_false (by omega)
        obtain ⟨hex, hez⟩ := extract_sb s m x hfit
        have HN : Hid (rdV 2 (sb s) = some (⟨2, 0, s.extract m (m + x)⟩, (sb s).drop (m + x))) := by
          show _ = _
          rw [rdV2, text_yes hn (by rw [sb_len]; omega)]
          simp only
          rw [← hex, bs_sb]
        have hx64 : x ≤ 64 := by omega
        clear hn h64 hex
        go_enter Try.func38, Try.ntmps38
        go_wp2_with (go_at_call 64; refine (HC.out _).mono ?_; rintro e w' ⟨rfl, rfl⟩)
        refine bodyPost_ret (v := .tuple #[.agg #[.int .i64 2, .int .i64 0, .string (s.extract m (m + x))], .int .i64 ((m + x : Nat) : Int)]) (by simp [results, Try.results38, go_sem]) rfl ?_
        exact ⟨(Below.refl _ _).alloc (Nat.le_refl _) _, ⟨2, 0, s.extract m (m + x)⟩, m + x, rfl, Or.inr ⟨by omega, hfit, HN.out, ⟨by simp [N64], by rw [hez]; omega⟩⟩⟩
      · have hd : decide ((x : Int) > (s.size : Int) - (m : Int)) = true := decide_eq_true (by omega)
        have HN : Hid (rdV 2 (sb s) = none) := by show _ = _; rw [rdV2, text_no hn (by rw [sb_len]; omega)]
        clear hn h64
        go_enter Try.func38, Try.ntmps38
        go_wp2_with (go_at_call 64; refine (HC.out _).mono ?_; rintro e w' ⟨rfl, rfl⟩)
        refine bodyPost_ret (v := .tuple #[.agg #[.int .i64 0, .int .i64 0, .string ⟨#[]⟩], .int .i64 0]) (by simp [results, Try.results38, go_sem]) rfl ?_
        exact ⟨(Below.refl _ _).alloc (Nat.le_refl _) _, v0, 0, rfl, Or.inl ⟨rfl, HN.out⟩⟩
theorem rread_any (k : Int) (hk : k = 1 ∨ k = 2 ∨ k = 3) (s : ByteArray) (hs : s.size ≤ 9223372036854775000) (w : World) : Calls Try.prog 38 #[.int .i64 k, .string s] w (RRd w k s) := by
  rcases hk with rfl | rfl | rfl
  · exact rread1 s (by omega) w
  · exact rread2 s hs w
  · exact rread3 s (by omega) w
end Go.Proofs.Ytiilhnedflmgoaa
