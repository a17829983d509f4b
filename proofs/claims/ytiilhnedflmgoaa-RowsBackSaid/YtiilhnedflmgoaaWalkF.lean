/-
  THE WALKS OF isLetter, isDigit, Name and the document's Name.
-/
import Derived.Test.YtiilhnedflmgoaaWalkE
namespace Go.Proofs.Ytiilhnedflmgoaa
open Go.RowKit Go.Sort
attribute [local go_sem high] run_eqs

set_option maxRecDepth 100000 in
theorem isLetter_any (x : Nat) (w : World) : Calls Try.prog 22 #[.int .u8 (x : Int)] w fun e w' => e = .returned (.bool (letter x)) ∧ w = w' := by
  by_cases h1 : 97 ≤ x
  · by_cases h2 : x ≤ 122
    · have e : letter x = true := by simp [letter, h1, h2]
      have d1 : decide ((x : Int) ≥ 97) = true := decide_eq_true (by omega)
      have d2 : decide ((x : Int) ≤ 122) = true := decide_eq_true (by omega)
      rw [e]
      clear e h1 h2
      go_enter Try.func22, Try.ntmps22
      go_wp2
      go_ret
      exact ⟨rfl, rfl⟩
    · have e : letter x = false := by simp [letter, h2]
      have d1 : decide ((x : Int) ≥ 97) = true := decide_eq_true (by omega)
      have d2 : decide ((x : Int) ≤ 122) = false := decide_eq_false (by omega)
      rw [e]
      clear e h1 h2
      go_enter Try.func22, Try.ntmps22
      go_wp2
      go_ret
      exact ⟨rfl, rfl⟩
  · have e : letter x = false := by simp [letter, h1]
    have d1 : decide ((x : Int) ≥ 97) = false := decide_eq_false (by omega)
    rw [e]
    clear e h1
    go_enter Try.func22, Try.ntmps22
    go_wp2
    go_ret
    exact ⟨rfl, rfl⟩
set_option maxRecDepth 100000 in
theorem isDigit_any (x : Nat) (w : World) : Calls Try.prog 23 #[.int .u8 (x : Int)] w fun e w' => e = .returned (.bool (digit x)) ∧ w = w' := by
  by_cases h1 : 48 ≤ x
  · by_cases h2 : x ≤ 57
    · have e : digit x = true := by simp [digit, h1, h2]
      have d1 : decide ((x : Int) ≥ 48) = true := decide_eq_true (by omega)
      have d2 : decide ((x : Int) ≤ 57) = true := decide_eq_true (by omega)
      rw [e]
      clear e h1 h2
      go_enter Try.func23, Try.ntmps23
      go_wp2
      go_ret
      exact ⟨rfl, rfl⟩
    · have e : digit x = false := by simp [digit, h2]
      have d1 : decide ((x : Int) ≥ 48) = true := decide_eq_true (by omega)
      have d2 : decide ((x : Int) ≤ 57) = false := decide_eq_false (by omega)
      rw [e]
      clear e h1 h2
      go_enter Try.func23, Try.ntmps23
      go_wp2
      go_ret
      exact ⟨rfl, rfl⟩
  · have e : digit x = false := by simp [digit, h1]
    have d1 : decide ((x : Int) ≥ 48) = false := decide_eq_false (by omega)
    rw [e]
    clear e h1
    go_enter Try.func23, Try.ntmps23
    go_wp2
    go_ret
    exact ⟨rfl, rfl⟩

theorem sb_at (s : ByteArray) (j : Nat) (h : j < s.size) : (sb s).take (j + 1) = (sb s).take j ++ [s[j].toNat] := by
  have hl : j < (sb s).length := by rw [sb_len]; exact h
  rw [List.take_succ_eq_append_getElem hl]
  congr 1
  simp only [sb, List.getElem_map, Array.getElem_toList]
  rfl
theorem sb_get (s : ByteArray) (j : Nat) (h : j < s.size) : (sb s)[j]? = some s[j].toNat := by
  have hl : j < (sb s).length := by rw [sb_len]; exact h
  rw [List.getElem?_eq_getElem hl]
  congr 1
  simp only [sb, List.getElem_map, Array.getElem_toList]
  rfl
theorem name_short {s : ByteArray} (h : ¬ (1 ≤ s.size ∧ s.size ≤ 24)) : isName s = false := by
  unfold isName
  by_cases h1 : 1 ≤ s.size
  · have h2 : ¬ s.size ≤ 24 := fun h2 => h ⟨h1, h2⟩
    simp [h2]
  · simp [h1]
theorem name_first {s : ByteArray} (h : 0 < s.size) (hl : letter s[0].toNat = false) : isName s = false := by
  unfold isName
  rw [List.getD_eq_getElem?_getD, sb_get s 0 h]
  simp [hl]
theorem name_bad {s : ByteArray} {j : Nat} (h : j < s.size) (hl : okb s[j].toNat = false) : isName s = false := by
  unfold isName
  have : (sb s).all okb = false := by
    rw [Bool.eq_false_iff]
    intro e
    rw [List.all_eq_true] at e
    rw [e _ (List.mem_of_getElem? (sb_get s j h))] at hl
    cases hl
  simp [this]
theorem name_good {s : ByteArray} (h1 : 1 ≤ s.size) (h2 : s.size ≤ 24) (h3 : letter s[0].toNat = true) (h4 : (sb s).all okb = true) : isName s = true := by
  unfold isName
  rw [List.getD_eq_getElem?_getD, sb_get s 0 (by omega)]
  simp [h1, h2, h3, h4]
theorem okb_next {s : ByteArray} {j : Nat} (h : j < s.size) (ha : ((sb s).take j).all okb = true) (hb : okb s[j].toNat = true) : ((sb s).take (j + 1)).all okb = true := by
  rw [sb_at s j h, List.all_append, ha]
  simp [hb]

set_option maxRecDepth 100000 in
set_option maxHeartbeats 1000000 in
theorem name_any (s : ByteArray) (hs : s.size ≤ 9223372036854775807) (w : World) : Calls Try.prog 7 #[.string s] w fun e w' => e = .returned (.bool (isName s)) ∧ w = w' := by
  by_cases h0 : s.size = 0
  · rw [name_short (s := s) (by omega)]
    go_enter Try.func7, Try.ntmps7
    go_wp2
    go_ret
    exact ⟨rfl, rfl⟩
  · have hz : ((s.size : Int) == 0) = false := beq_false_of_ne (by omega)
    by_cases h24 : s.size ≤ 24
    · have hd : decide ((s.size : Int) > 24) = false := decide_eq_false (by omega)
      have hp : 0 < s.size := by omega
      have HL := Lib.hid (fun W => isLetter_any s[0].toNat W)
      by_cases hl : letter s[0].toNat = true
      · simp only [hl] at HL
        have HG := Lib.hid (fun h => name_good (s := s) (by omega) h24 hl h)
        go_enter Try.func7, Try.ntmps7
        go_wp2_with (go_at_call 22; refine (HL.out _).mono ?_; rintro e w' ⟨rfl, rfl⟩)
        go_loopw [20] (fun i wr => ∃ k : Nat, k ≤ s.size ∧ i = .int .i64 (k : Int) ∧ ((sb s).take k).all okb = true ∧ w = wr) (fun i _ => s.size - (intOf i).toNat)
        case atStart => exact ⟨0, by omega, rfl, rfl, rfl⟩
        case round =>
          obtain ⟨k, hk, rfl, hall, rfl⟩ := hrel
          have HA := Lib.hid hall
          clear hall HL
          by_cases hlt : k < s.size
          · have HL := Lib.hid (fun W => isLetter_any s[k].toNat W)
            have HD := Lib.hid (fun W => isDigit_any s[k].toNat W)
            by_cases c1 : letter s[k].toNat = true
            · simp only [c1] at HL
              have HN := Lib.hid (okb_next hlt HA.out (by simp [okb, c1]))
              clear c1
              go_wp2_with (go_at_call 22; refine (HL.out _).mono ?_; rintro e w' ⟨rfl, rfl⟩)
              go_roundw
              case rel => exact ⟨k + 1, by omega, by go_num, HN.out, by first | rfl | trivial⟩
              case measure => simp [intOf]; omega
            · have c1 : letter s[k].toNat = false := by simpa using c1
              simp only [c1] at HL
              by_cases c2 : digit s[k].toNat = true
              · simp only [c2] at HD
                have HN := Lib.hid (okb_next hlt HA.out (by simp [okb, c2]))
                clear c1 c2
                go_wp2_with (first | (go_at_call 22; refine (HL.out _).mono ?_; rintro e w' ⟨rfl, rfl⟩) | (go_at_call 23; refine (HD.out _).mono ?_; rintro e w' ⟨rfl, rfl⟩))
                go_roundw
                case rel => exact ⟨k + 1, by omega, by go_num, HN.out, by first | rfl | trivial⟩
                case measure => simp [intOf]; omega
              · have c2 : digit s[k].toNat = false := by simpa using c2
                simp only [c2] at HD
                by_cases c3 : s[k].toNat = 95
                · have HN := Lib.hid (okb_next hlt HA.out (by simp [okb, c3]))
                  have d3 : (((s[k].toNat : Nat) : Int) == 95) = true := by simp; omega
                  clear c1 c2 c3
                  go_wp2_with (first | (go_at_call 22; refine (HL.out _).mono ?_; rintro e w' ⟨rfl, rfl⟩) | (go_at_call 23; refine (HD.out _).mono ?_; rintro e w' ⟨rfl, rfl⟩))
                  go_roundw
                  case rel => exact ⟨k + 1, by omega, by go_num, HN.out, by first | rfl | trivial⟩
                  case measure => simp [intOf]; omega
                · have HN := Lib.hid (name_bad hlt (by simp [okb, c1, c2, c3]))
                  have d3 : (((s[k].toNat : Nat) : Int) == 95) = false := by simp; omega
                  clear c1 c2 c3
                  go_wp2_with (first | (go_at_call 22; refine (HL.out _).mono ?_; rintro e w' ⟨rfl, rfl⟩) | (go_at_call 23; refine (HD.out _).mono ?_; rintro e w' ⟨rfl, rfl⟩))
                  go_ret
                  exact ⟨by rw [HN.out]; rfl, rfl⟩
          · obtain rfl : k = s.size := by omega
            have hall := HA.out
            rw [List.take_of_length_le (by rw [sb_len]; omega)] at hall
            have HN := Lib.hid (HG.out hall)
            clear hall
            go_wp2
            go_ret
            exact ⟨by rw [HN.out]; rfl, rfl⟩
      · have hl : letter s[0].toNat = false := by simpa using hl
        simp only [hl] at HL
        rw [name_first hp hl]
        clear hl
        go_enter Try.func7, Try.ntmps7
        go_wp2_with (go_at_call 22; refine (HL.out _).mono ?_; rintro e w' ⟨rfl, rfl⟩)
        go_ret
        exact ⟨rfl, rfl⟩
    · have hd : decide ((s.size : Int) > 24) = true := decide_eq_true (by omega)
      rw [name_short (s := s) (by omega)]
      clear h24
      go_enter Try.func7, Try.ntmps7
      go_wp2
      go_ret
      exact ⟨rfl, rfl⟩

/-! ### The document's Name -/
set_option maxRecDepth 100000 in
set_option maxHeartbeats 1000000 in
theorem rname_any (s : ByteArray) (hs : s.size ≤ 9223372036854775807) (w : World) : Calls Try.prog 8 #[.string s] w fun e w' => e = .returned (.bool (isName s)) ∧ w = w' := by
  by_cases h0 : s.size = 0
  · have hz : decide ((s.size : Int) < 1) = true := decide_eq_true (by omega)
    rw [name_short (s := s) (by omega)]
    clear h0
    go_enter Try.func8, Try.ntmps8
    go_wp2
    go_ret
    exact ⟨rfl, rfl⟩
  · have hz : decide ((s.size : Int) < 1) = false := decide_eq_false (by omega)
    by_cases h24 : s.size ≤ 24
    · have hd : decide ((s.size : Int) > 24) = false := decide_eq_false (by omega)
      have hp : 0 < s.size := by omega
      by_cases hl : letter s[0].toNat = true
      · have HG := Lib.hid (fun h => name_good (s := s) (by omega) h24 hl h)
        have d1 : decide (((s[0].toNat : Nat) : Int) < 97) = false := decide_eq_false (by simp [letter] at hl; omega)
        have d2 : decide (((s[0].toNat : Nat) : Int) > 122) = false := decide_eq_false (by simp [letter] at hl; omega)
        have H1 : Hid (((sb s).take 1).all okb = true) := okb_next hp rfl (by simp [okb, hl])
        clear hl
        go_enter Try.func8, Try.ntmps8
        go_wp2
        go_loopw [3] (fun i wr => ∃ k : Nat, 1 ≤ k ∧ k ≤ s.size ∧ i = .int .i64 (k : Int) ∧ ((sb s).take k).all okb = true ∧ w = wr) (fun i _ => s.size - (intOf i).toNat)
        case atStart => exact ⟨1, by omega, by omega, rfl, H1.out, rfl⟩
        case round =>
          obtain ⟨k, hk1, hk, rfl, hall, rfl⟩ := hrel
          have HA := Lib.hid hall
          clear hall d1 d2
          by_cases hlt : k < s.size
          · by_cases a1 : 97 ≤ s[k].toNat <;> by_cases a2 : s[k].toNat ≤ 122 <;> by_cases b1 : 48 ≤ s[k].toNat <;> by_cases b2 : s[k].toNat ≤ 57 <;> rcases Bool.eq_false_or_eq_true (((s[k].toNat : Nat) : Int) == 95) with e5 | e5
            all_goals first
              | (exfalso; have c := eq_of_beq e5; omega)
              | (exfalso; omega)
              | (have HN := Lib.hid (okb_next hlt HA.out (by first | (have c : s[k].toNat = 95 := (by have := eq_of_beq e5; omega); simp [okb, c]) | simp [okb, letter, digit, a1, a2, b1, b2]))
                 have e1 : decide (((s[k].toNat : Nat) : Int) ≥ 97) = decide (97 ≤ s[k].toNat) := by rw [decide_eq_decide]; omega
                 have e2 : decide (((s[k].toNat : Nat) : Int) ≤ 122) = decide (s[k].toNat ≤ 122) := by rw [decide_eq_decide]; omega
                 have e3 : decide (((s[k].toNat : Nat) : Int) ≥ 48) = decide (48 ≤ s[k].toNat) := by rw [decide_eq_decide]; omega
                 have e4 : decide (((s[k].toNat : Nat) : Int) ≤ 57) = decide (s[k].toNat ≤ 57) := by rw [decide_eq_decide]; omega
                 simp only [a1, a2, b1, b2, decide_true, decide_false] at e1 e2 e3 e4
                 clear a1 a2 b1 b2
                 go_wp2
                 go_roundw
                 case rel => exact ⟨k + 1, by omega, by omega, by go_num, HN.out, by first | rfl | trivial⟩
                 case measure => simp [intOf]; omega)
              | (have HN := Lib.hid (name_bad hlt (by have c : ¬ s[k].toNat = 95 := (by have := ne_of_beq_false e5; omega); simp [okb, letter, digit, a1, a2, b1, b2, c]))
                 have e1 : decide (((s[k].toNat : Nat) : Int) ≥ 97) = decide (97 ≤ s[k].toNat) := by rw [decide_eq_decide]; omega
                 have e2 : decide (((s[k].toNat : Nat) : Int) ≤ 122) = decide (s[k].toNat ≤ 122) := by rw [decide_eq_decide]; omega
                 have e3 : decide (((s[k].toNat : Nat) : Int) ≥ 48) = decide (48 ≤ s[k].toNat) := by rw [decide_eq_decide]; omega
                 have e4 : decide (((s[k].toNat : Nat) : Int) ≤ 57) = decide (s[k].toNat ≤ 57) := by rw [decide_eq_decide]; omega
                 simp only [a1, a2, b1, b2, decide_true, decide_false] at e1 e2 e3 e4
                 clear a1 a2 b1 b2
                 go_wp2
                 go_ret
                 exact ⟨by rw [HN.out]; rfl, rfl⟩)
          · obtain rfl : k = s.size := by omega
            have hall := HA.out
            rw [List.take_of_length_le (by rw [sb_len]; omega)] at hall
            have HN := Lib.hid (HG.out hall)
            clear hall
            go_wp2
            go_ret
            exact ⟨by rw [HN.out]; rfl, rfl⟩
      · have hl : letter s[0].toNat = false := by simpa using hl
        rw [name_first hp hl]
        by_cases d1 : s[0].toNat < 97
        · have d1 : decide (((s[0].toNat : Nat) : Int) < 97) = true := decide_eq_true (by omega)
          clear h24 hs hl
          go_enter Try.func8, Try.ntmps8
          go_wp2
          go_ret
          exact ⟨rfl, rfl⟩
        · have d2 : decide (((s[0].toNat : Nat) : Int) > 122) = true := decide_eq_true (by simp [letter] at hl; omega)
          have d1 : decide (((s[0].toNat : Nat) : Int) < 97) = false := decide_eq_false (by omega)
          clear h24 hs hl
          go_enter Try.func8, Try.ntmps8
          go_wp2
          go_ret
          exact ⟨rfl, rfl⟩
    · have hd : decide ((s.size : Int) > 24) = true := decide_eq_true (by omega)
      rw [name_short (s := s) (by omega)]
      clear h24
      go_enter Try.func8, Try.ntmps8
      go_wp2
      go_ret
      exact ⟨rfl, rfl⟩
end Go.Proofs.Ytiilhnedflmgoaa
