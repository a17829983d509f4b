/-
  THE WALK OF Read, of every text that is not too long.
-/
import Derived.Test.YtjfpkjpicalfmaaDoorNear
namespace Go.Proofs.YtjfpkjpicalfmaaDoor
open Go.RowKit Go.Sort
attribute [local go_sem high] run_eq23 run_neq23 run_eq9

theorem run_neq9 (a b : ByteArray) : binOp .neq 9 (.string a) (.string b) = pure (.bool (!seq a b)) := binOp_string_neq 9 a b
attribute [local go_sem high] run_neq9
theorem parse_in {l : List UInt8} {v : Int} (h : Lib.parseIntB 64 l = .ok v) : In64 v := by
  unfold Lib.parseIntB at h
  split at h
  · cases h
  · simp only at h
    split at h
    · cases h
    · cases h
    · split at h
      · cases h
      · rename_i h1
        split at h
        · cases h
        · rename_i h2
          cases h
          unfold In64
          rename_i c r x u hq
          by_cases hn : c.toNat = 45 <;> simp [hn] at h1 h2 ⊢ <;> omega
theorem near_n (s : ByteArray) : In64 (nearV s).n := by
  unfold nearV nearI
  repeat' split
  · show In64 (bit _)
    generalize seq s bTrue = q
    cases q <;> simp [bit, In64]
  · show In64 0
    unfold In64; omega
  · rename_i h
    exact parse_in h
  · show In64 0
    unfold In64; omega
theorem repl_le : ∀ (n : Nat) (l : List UInt8), l.length ≤ n → (unescL l).length ≤ l.length := by
  intro n
  induction n with
  | zero =>
    intro l hl
    have : l = [] := List.eq_nil_of_length_eq_zero (by omega)
    subst this
    exact Nat.le_refl _
  | succ n ih =>
    intro l hl
    match l with
    | [] => exact Nat.le_refl _
    | [c] => exact Nat.le_refl _
    | c :: d :: l =>
      simp only [List.length_cons] at hl
      unfold unescL
      split
      · have := ih l (by omega)
        simp; omega
      · have := ih (d :: l) (by simp; omega)
        simp at this ⊢; omega
theorem near_s (s : ByteArray) : (nearV s).s.size ≤ s.size := by
  have z0 : s.data.toList.length = s.size := by rw [Array.length_toList]; rfl
  unfold nearV nearI
  repeat' split
  all_goals first | exact Nat.zero_le _ | skip
  show (nearT s.data.toList).size ≤ _
  unfold nearT
  have z1 := trimP_le s.data.toList
  have z2 := trimS_le (Lib.trimPrefix s.data.toList [39])
  have z3 := repl_le _ (Lib.trimSuffix (Lib.trimPrefix s.data.toList [39]) [39]) (Nat.le_refl _)
  rw [repl_unesc _ _ (Nat.le_refl _)]
  show (unescL (Lib.trimSuffix (Lib.trimPrefix s.data.toList [39]) [39])).toArray.size ≤ _
  simp
  omega

set_option maxRecDepth 100000 in
set_option maxHeartbeats 4000000 in
theorem read_any (s : ByteArray) (hs : s.size ≤ 1048576) (w : World) (hw : Sm w) (he : Er w) (hp : Pw w) :
    Calls Tryd.prog 42 #[.string s] w fun e w' => e = .returned (.tuple #[.agg #[.int .i64 (readV s).k, .int .i64 (readV s).n, .string (readV s).s], .int .i64 (readE s)]) ∧ Below w.heap.size w w' := by
  have C1 := Lib.hid (near_any s hs (w.alloc (.cells #[.int .i64 0, .int .i64 0, .string ⟨#[]⟩] 23)) (hw.below ((Below.refl _ _).alloc (Nat.le_refl _) _)) (he.below ((Below.refl _ _).alloc (Nat.le_refl _) _)))
  have C1 := Lib.hid (fun (_ : Unit) => C1.out)
  have C2 := Lib.hid (print_any (nearV s) (by have := near_s s; omega) (near_n s))
  have HW := Lib.hid hw
  have HP := Lib.hid hp
  have HV : Hid (readV s = if (nearV s).may && seq (printB (nearV s)) s then nearV s else ⟨0, 0, ⟨#[]⟩⟩) := rfl
  have HE : Hid (readE s = if (nearV s).may && seq (printB (nearV s)) s then 0 else 5) := rfl
  have HPE : Hid (printE (nearV s) = if (nearV s).may then 0 else 5) := rfl
  rw [HPE.out] at C2
  rw [HV.out, HE.out]
  clear hw he hp hs HV HE HPE
  generalize printB (nearV s) = pb at C2 ⊢
  generalize (nearV s).may = mm at C2 ⊢
  generalize nearV s = v at C1 C2 ⊢
  generalize hq : seq pb s = q
  obtain ⟨k, n, t⟩ := v
  simp only at C1 C2 ⊢
  cases mm
  · rw [Bool.false_and, if_neg (by decide), if_neg (by decide)]
    rw [if_neg (by decide)] at C2
    go_enter Tryd.func42, Tryd.ntmps42
    go_wp2_with fail
    refine (C1.out ()).mono ?_
    rintro e w1 ⟨rfl, hb1⟩
    have Z1 := ((Zero.new w).below hb1 (by simp)).below ((Below.refl _ _).alloc (Nat.le_refl _) (.cells #[.int .i64 k, .int .i64 n, .string t] 23)) (((Zero.new w).below hb1 (by simp)).lt)
    have hz1 : w.heap.size < w1.heap.size := ((Zero.new w).below hb1 (by simp)).lt
    have B1 := (((Below.refl w.heap.size w).alloc (Nat.le_refl _) (.cells #[.int .i64 0, .int .i64 0, .string ⟨#[]⟩] 23)).trans (hb1.mono (by simp)))
    have HB1 := Lib.hid (B1.alloc B1.size (.cells #[.int .i64 k, .int .i64 n, .string t] 23))
    obtain ⟨c0, c1, c2⟩ := Box.new w1 k n t
    clear hb1 B1
    go_wp2_with fail
    refine (C2.out _ (HW.out.below HB1.out) (tab_below HP.out HB1.out)).mono ?_
    rintro e w2 ⟨rfl, hb2⟩
    have KB := (show Box (w1.alloc (.cells #[.int .i64 k, .int .i64 n, .string t] 23)) w1.heap.size 0 k n t from ⟨c0, c1, c2⟩).up hb2
    have Z2 := Z1.below hb2 Z1.lt
    have HB2 := Lib.hid (below_trans HB1.out hb2)
    clear hb2 Z1 c0 c1 c2
    obtain ⟨c0, c1, c2⟩ := KB
    obtain ⟨⟨r0, r1, r2⟩, f0, f1, f2⟩ := Z2.facts
    clear Z2
    go_wp2
    refine bodyPost_ret (v := .tuple #[.agg #[.int .i64 0, .int .i64 0, .string ⟨#[]⟩], .int .i64 5]) (by simp [results, Tryd.results42, go_sem, r0, r1, r2]) rfl ?_
    refine ⟨rfl, ?_⟩
    repeat (first | exact HB2.out | refine below_store ?_ (by omega) _)
  · rw [if_pos rfl] at C2
    cases q
    · rw [Bool.and_false, if_neg (by decide), if_neg (by decide)]
      go_enter Tryd.func42, Tryd.ntmps42
      go_wp2_with fail
      refine (C1.out ()).mono ?_
      rintro e w1 ⟨rfl, hb1⟩
      have Z1 := ((Zero.new w).below hb1 (by simp)).below ((Below.refl _ _).alloc (Nat.le_refl _) (.cells #[.int .i64 k, .int .i64 n, .string t] 23)) (((Zero.new w).below hb1 (by simp)).lt)
      have hz1 : w.heap.size < w1.heap.size := ((Zero.new w).below hb1 (by simp)).lt
      have B1 := (((Below.refl w.heap.size w).alloc (Nat.le_refl _) (.cells #[.int .i64 0, .int .i64 0, .string ⟨#[]⟩] 23)).trans (hb1.mono (by simp)))
      have HB1 := Lib.hid (B1.alloc B1.size (.cells #[.int .i64 k, .int .i64 n, .string t] 23))
      obtain ⟨c0, c1, c2⟩ := Box.new w1 k n t
      clear hb1 B1
      go_wp2_with fail
      refine (C2.out _ (HW.out.below HB1.out) (tab_below HP.out HB1.out)).mono ?_
      rintro e w2 ⟨rfl, hb2⟩
      have KB := (show Box (w1.alloc (.cells #[.int .i64 k, .int .i64 n, .string t] 23)) w1.heap.size 0 k n t from ⟨c0, c1, c2⟩).up hb2
      have Z2 := Z1.below hb2 Z1.lt
      have HB2 := Lib.hid (below_trans HB1.out hb2)
      clear hb2 Z1 c0 c1 c2
      obtain ⟨c0, c1, c2⟩ := KB
      obtain ⟨⟨r0, r1, r2⟩, f0, f1, f2⟩ := Z2.facts
      clear Z2
      go_wp2
      refine bodyPost_ret (v := .tuple #[.agg #[.int .i64 0, .int .i64 0, .string ⟨#[]⟩], .int .i64 5]) (by simp [results, Tryd.results42, go_sem, r0, r1, r2]) rfl ?_
      refine ⟨rfl, ?_⟩
      repeat (first | exact HB2.out | refine below_store ?_ (by omega) _)
    · rw [Bool.and_self, if_pos rfl, if_pos rfl]
      go_enter Tryd.func42, Tryd.ntmps42
      go_wp2_with fail
      refine (C1.out ()).mono ?_
      rintro e w1 ⟨rfl, hb1⟩
      have Z1 := ((Zero.new w).below hb1 (by simp)).below ((Below.refl _ _).alloc (Nat.le_refl _) (.cells #[.int .i64 k, .int .i64 n, .string t] 23)) (((Zero.new w).below hb1 (by simp)).lt)
      have hz1 : w.heap.size < w1.heap.size := ((Zero.new w).below hb1 (by simp)).lt
      have B1 := (((Below.refl w.heap.size w).alloc (Nat.le_refl _) (.cells #[.int .i64 0, .int .i64 0, .string ⟨#[]⟩] 23)).trans (hb1.mono (by simp)))
      have HB1 := Lib.hid (B1.alloc B1.size (.cells #[.int .i64 k, .int .i64 n, .string t] 23))
      obtain ⟨c0, c1, c2⟩ := Box.new w1 k n t
      clear hb1 B1
      go_wp2_with fail
      refine (C2.out _ (HW.out.below HB1.out) (tab_below HP.out HB1.out)).mono ?_
      rintro e w2 ⟨rfl, hb2⟩
      have KB := (show Box (w1.alloc (.cells #[.int .i64 k, .int .i64 n, .string t] 23)) w1.heap.size 0 k n t from ⟨c0, c1, c2⟩).up hb2
      have Z2 := Z1.below hb2 Z1.lt
      have HB2 := Lib.hid (below_trans HB1.out hb2)
      clear hb2 Z1 c0 c1 c2
      obtain ⟨c0, c1, c2⟩ := KB
      obtain ⟨⟨r0, r1, r2⟩, f0, f1, f2⟩ := Z2.facts
      clear Z2
      go_wp2
      refine bodyPost_ret (v := .tuple #[.agg #[.int .i64 k, .int .i64 n, .string t], .int .i64 0]) (by simp [results, Tryd.results42, go_sem, r0, r1, r2]) rfl ?_
      refine ⟨rfl, ?_⟩
      repeat (first | exact HB2.out | refine below_store ?_ (by omega) _)
end Go.Proofs.YtjfpkjpicalfmaaDoor
