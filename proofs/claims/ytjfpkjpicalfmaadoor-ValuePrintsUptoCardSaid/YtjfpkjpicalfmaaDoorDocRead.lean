/-
  THE WALK OF the document's Read.
-/
import Derived.Test.YtjfpkjpicalfmaaDoorDocPrint
import Derived.Test.YtjfpkjpicalfmaaDoorNumSpec
import Derived.Test.YtjfpkjpicalfmaaDoorRead
namespace Go.Proofs.YtjfpkjpicalfmaaDoor
open Go.RowKit Go.Sort
open Go.Lib (itoa decDigits formatBool)
attribute [local go_sem high] run_eq23 run_neq23 run_eq9

theorem read_yes {s : ByteArray} {v : V} (hm : v.may = true) (hn : In64 v.n) (h : printB v = s) : readV s = v ∧ readE s = 0 := by
  subst h
  exact read_print hm hn
theorem read_no {s : ByteArray} (h1 : seq s ⟨#[110, 117, 108, 108]⟩ = false) (h2 : seq s ⟨#[102, 97, 108, 115, 101]⟩ = false) (h3 : seq s ⟨#[116, 114, 117, 101]⟩ = false)
    (h4 : ∀ n : Int, In64 n → s.data.toList ≠ itoa n) (h5 : ∀ t : ByteArray, t.size ≤ 64 → sb s ≠ quoted t) : readV s = ⟨0, 0, ⟨#[]⟩⟩ ∧ readE s = 5 := by
  have key : ((nearV s).may && seq (printB (nearV s)) s) = false := by
    rw [Bool.eq_false_iff]
    intro e
    simp only [Bool.and_eq_true] at e
    obtain ⟨em, es⟩ := e
    have es := seq_eq.1 es
    have hn := near_n s
    generalize nearV s = v at em es hn
    obtain ⟨k, n, t⟩ := v
    have hm : may k n t = true := em
    have hk := may_kind hm
    have hk4 : k = 0 ∨ k = 1 ∨ k = 2 ∨ k = 3 := by omega
    rcases hk4 with rfl | rfl | rfl | rfl
    · simp [may, seq_eq] at hm
      obtain ⟨rfl, rfl⟩ := hm
      rw [pr_null] at es
      rw [← es, seq_refl] at h1
      cases h1
    · simp [may, seq_eq] at hm
      subst hm
      rw [pr_int] at es
      exact h4 n hn (by rw [← es])
    · simp [may] at hm
      obtain ⟨rfl, hs⟩ := hm
      exact h5 t hs (by rw [← es, print_t t hs])
    · simp [may, seq_eq] at hm
      obtain ⟨rfl, hm⟩ := hm
      rcases hm with rfl | rfl
      · rw [pr_false] at es
        rw [← es, seq_refl] at h2
        cases h2
      · rw [pr_true] at es
        rw [← es, seq_refl] at h3
        cases h3
  constructor
  · unfold readV; rw [key]; rfl
  · unfold readE; rw [key]; rfl
theorem below_res {w W' : World} (h : Below w.heap.size w W') (a b c : Value) : Below w.heap.size w (((W'.setCell ⟨w.heap.size, 0, none⟩ a).setCell ⟨w.heap.size, 1, none⟩ b).setCell ⟨w.heap.size, 2, none⟩ c) :=
  ((h.setCell (p := ⟨w.heap.size, 0, none⟩) (Nat.le_refl _) a).setCell (p := ⟨w.heap.size, 1, none⟩) (Nat.le_refl _) b).setCell (p := ⟨w.heap.size, 2, none⟩) (Nat.le_refl _) c
/-- what stands between two places -/
def mid (s : ByteArray) (m j : Nat) : List Nat := ((sb s).drop j).take (m - j)
theorem mid_next (s : ByteArray) (m j : Nat) (h : j < m) (hm : m ≤ s.size) : mid s m j = s[j].toNat :: mid s m (j + 1) := by
  unfold mid
  rw [drop_at s j (by omega), show m - j = (m - (j + 1)) + 1 by omega, List.take_succ_cons]
theorem mid_end (s : ByteArray) (m j : Nat) (h : m ≤ j) : mid s m j = [] := by
  unfold mid
  rw [show m - j = 0 by omega, List.take_zero]
theorem quoted_mid {s t : ByteArray} (h : sb s = quoted t) : mid s (s.size - 1) 1 = escN (sb t) ∧ 2 ≤ s.size := by
  have hl : s.size = (escN (sb t)).length + 2 := by rw [← sb_len, h]; simp [quoted]
  refine ⟨?_, by omega⟩
  unfold mid
  rw [h, hl]
  simp [quoted]
theorem quoted_ends {s t : ByteArray} (h : sb s = quoted t) (h0 : 0 < s.size) : s[0].toNat = 39 ∧ s[s.size - 1].toNat = 39 := by
  have hl : s.size = (escN (sb t)).length + 2 := by rw [← sb_len, h]; simp [quoted]
  have e1 := sb_get s 0 h0
  have e2 := sb_get s (s.size - 1) (by omega)
  rw [h] at e1 e2
  constructor
  · simp [quoted] at e1
    exact e1.symm
  · have : (quoted t)[s.size - 1]? = some 39 := by
      rw [hl]
      simp [quoted]
    rw [this] at e2
    injection e2 with e2
    exact e2.symm
theorem mid_quoted {s : ByteArray} {l : List Nat} (h2 : 2 ≤ s.size) (h0 : s[0].toNat = 39) (hm : s[s.size - 1].toNat = 39) (hl : ∀ x ∈ l, x < 256) (hu : mid s (s.size - 1) 1 = escN l) : sb s = quoted (bs l) := by
  unfold quoted
  rw [sb_bs l hl, ← hu]
  have e1 := drop_at s 0 (by omega)
  rw [List.drop_zero] at e1
  rw [e1, h0]
  congr 1
  unfold mid
  have e2 := drop_at s (s.size - 1) (by omega)
  rw [show s.size - 1 + 1 = s.size by omega, drop_end s s.size (by omega), hm] at e2
  have e3 : ((sb s).drop 1).drop (s.size - 1 - 1) = [39] := by
    rw [List.drop_drop, show 1 + (s.size - 1 - 1) = s.size - 1 by omega, e2]
  rw [← e3]
  exact (List.take_append_drop _ _).symm
/-- the outcome of Read -/
def RdOut (w : World) (s : ByteArray) (e : Ending) (w' : World) : Prop := e = .returned (.tuple #[.agg #[.int .i64 (readV s).k, .int .i64 (readV s).n, .string (readV s).s], .int .i64 (readE s)]) ∧ Below w.heap.size w w'

set_option maxRecDepth 100000 in
set_option maxHeartbeats 2000000 in
theorem rrd_null (s : ByteArray) (h1 : seq s ⟨#[110, 117, 108, 108]⟩ = true) (w : World) : Calls Tryd.prog 43 #[.string s] w (RdOut w s) := by
  obtain ⟨e1, e2⟩ := read_yes (v := ⟨0, 0, ⟨#[]⟩⟩) (by simp [V.may, may, seq_refl]) (by simp [In64]) (pr_null.trans (seq_eq.1 h1).symm)
  unfold RdOut
  rw [e1, e2]
  clear e1 e2
  go_enter Tryd.func43, Tryd.ntmps43
  go_wp2
  refine bodyPost_ret (v := .tuple #[.agg #[.int .i64 0, .int .i64 0, .string ⟨#[]⟩], .int .i64 0]) (by simp [results, Tryd.results43, go_sem]) rfl ?_
  exact ⟨rfl, (Below.refl _ _).alloc (Nat.le_refl _) _⟩
set_option maxRecDepth 100000 in
set_option maxHeartbeats 2000000 in
theorem rrd_bool (s : ByteArray) (h1 : seq s ⟨#[110, 117, 108, 108]⟩ = false) (q : Bool) (h2 : seq s ⟨#[102, 97, 108, 115, 101]⟩ = !q) (h3 : seq s ⟨#[116, 114, 117, 101]⟩ = q) (w : World) : Calls Tryd.prog 43 #[.string s] w (RdOut w s) := by
  have hp : printB ⟨3, bit q, ⟨#[]⟩⟩ = s := by
    cases q
    · exact pr_false.trans (seq_eq.1 h2).symm
    · exact pr_true.trans (seq_eq.1 h3).symm
  obtain ⟨e1, e2⟩ := read_yes (v := ⟨3, bit q, ⟨#[]⟩⟩) (by cases q <;> simp [V.may, may, seq_refl, bit]) (by cases q <;> simp [In64, bit]) hp
  unfold RdOut
  rw [e1, e2]
  have HT := Lib.hid (fun W => truth_any q W)
  have HZ := Lib.hid (Zero.new w)
  clear e1 e2 hp
  cases q
  all_goals
    go_enter Tryd.func43, Tryd.ntmps43
    go_wp2_with fail
    refine (HT.out _).mono ?_
    rintro e w1 ⟨rfl, hb⟩
    obtain ⟨⟨r0, r1, r2⟩, f0, f1, f2⟩ := (HZ.out.below hb (by simp)).facts
    have HB := Lib.hid (below_trans ((Below.refl _ w).alloc (Nat.le_refl _) _) hb)
    clear hb
    go_wp2
  · refine bodyPost_ret (v := .tuple #[.agg #[.int .i64 3, .int .i64 (bit false), .string ⟨#[]⟩], .int .i64 0]) (by simp [results, Tryd.results43, go_sem, r0, r1, r2]) rfl ?_
    exact ⟨rfl, below_res HB.out _ _ _⟩
  · refine bodyPost_ret (v := .tuple #[.agg #[.int .i64 3, .int .i64 (bit true), .string ⟨#[]⟩], .int .i64 0]) (by simp [results, Tryd.results43, go_sem, r0, r1, r2]) rfl ?_
    exact ⟨rfl, below_res HB.out _ _ _⟩
set_option maxRecDepth 100000 in
set_option maxHeartbeats 2000000 in
theorem rrd_num (s : ByteArray) (h1 : seq s ⟨#[110, 117, 108, 108]⟩ = false) (h2 : seq s ⟨#[102, 97, 108, 115, 101]⟩ = false) (h3 : seq s ⟨#[116, 114, 117, 101]⟩ = false) (n : Int) (hn : In64 n) (hs : s.data.toList = itoa n) (w : World)
    (HN : ∀ W, Calls Tryd.prog 81 #[.string s] W fun e w' => e = .returned (.tuple #[.int .i64 n, .bool true]) ∧ Below W.heap.size W w') : Calls Tryd.prog 43 #[.string s] w (RdOut w s) := by
  have hp : printB ⟨1, n, ⟨#[]⟩⟩ = s := by
    rw [pr_int, ← hs]
  obtain ⟨e1, e2⟩ := read_yes (v := ⟨1, n, ⟨#[]⟩⟩) (by simp [V.may, may, seq_refl]) hn hp
  unfold RdOut
  rw [e1, e2]
  have HZ := Lib.hid (Zero.new w)
  have HN := Lib.hid HN
  clear e1 e2 hp hs
  go_enter Tryd.func43, Tryd.ntmps43
  go_wp2_with fail
  refine (HN.out _).mono ?_
  rintro e w1 ⟨rfl, hb⟩
  obtain ⟨⟨r0, r1, r2⟩, f0, f1, f2⟩ := (HZ.out.below hb (by simp)).facts
  have HB := Lib.hid (below_trans ((Below.refl _ w).alloc (Nat.le_refl _) _) hb)
  clear hb
  go_wp2
  refine bodyPost_ret (v := .tuple #[.agg #[.int .i64 1, .int .i64 n, .string ⟨#[]⟩], .int .i64 0]) (by simp [results, Tryd.results43, go_sem, r0, r1, r2]) rfl ?_
  exact ⟨rfl, below_res HB.out _ _ _⟩
set_option maxRecDepth 100000 in
set_option maxHeartbeats 4000000 in
theorem rrd_none (s : ByteArray) (hs : s.size ≤ 9223372036854775807) (h1 : seq s ⟨#[110, 117, 108, 108]⟩ = false) (h2 : seq s ⟨#[102, 97, 108, 115, 101]⟩ = false) (h3 : seq s ⟨#[116, 114, 117, 101]⟩ = false) (h4 : ∀ n : Int, In64 n → s.data.toList ≠ itoa n) (w : World)
    (HN : ∀ W, Calls Tryd.prog 81 #[.string s] W fun e w' => (∃ m : Int, e = .returned (.tuple #[.int .i64 m, .bool false])) ∧ Below W.heap.size W w') (hbad : s.size < 2 ∨ (∃ h : 0 < s.size, s[0].toNat ≠ 39) ∨ (∃ h : s.size - 1 < s.size, s[s.size - 1].toNat ≠ 39)) : Calls Tryd.prog 43 #[.string s] w (RdOut w s) := by
  have h5 : ∀ t : ByteArray, t.size ≤ 64 → sb s ≠ quoted t := by
    intro t ht e
    have h2 := (quoted_mid e).2
    obtain ⟨e0, e1⟩ := quoted_ends e (by omega)
    rcases hbad with h | ⟨_, h⟩ | ⟨_, h⟩
    · omega
    · exact h e0
    · exact h e1
  obtain ⟨e1, e2⟩ := read_no h1 h2 h3 h4 h5
  unfold RdOut
  rw [e1, e2]
  have HZ := Lib.hid (Zero.new w)
  have HN := Lib.hid HN
  clear e1 e2 h4 h5
  by_cases hb2 : s.size < 2
  · have hd : decide ((s.size : Int) < 2) = true := decide_eq_true (by omega)
    clear hbad
    go_enter Tryd.func43, Tryd.ntmps43
    go_wp2_with fail
    refine (HN.out _).mono ?_
    rintro e w1 ⟨⟨m, rfl⟩, hb⟩
    obtain ⟨⟨r0, r1, r2⟩, f0, f1, f2⟩ := (HZ.out.below hb (by simp)).facts
    have HB := Lib.hid (below_trans ((Below.refl _ w).alloc (Nat.le_refl _) _) hb)
    clear hb
    go_wp2
    refine bodyPost_ret (v := .tuple #[.agg #[.int .i64 0, .int .i64 0, .string ⟨#[]⟩], .int .i64 5]) (by simp [results, Tryd.results43, go_sem, r0, r1, r2]) rfl ?_
    exact ⟨rfl, below_res HB.out _ _ _⟩
  · have hd : decide ((s.size : Int) < 2) = false := decide_eq_false (by omega)
    have h0 : 0 < s.size := by omega
    obtain ⟨m9, hm9⟩ : ∃ m, s.size - 1 = m := ⟨_, rfl⟩
    have hm1 : (s.size : Int) - 1 = (m9 : Int) := by omega
    have hm2 : m9 < s.size := by omega
    by_cases hf : s[0].toNat = 39
    · have hl : s[m9].toNat ≠ 39 := by
        rcases hbad with h | ⟨_, h⟩ | ⟨_, h⟩
        · omega
        · exact absurd hf h
        · simpa only [hm9] using h
      have hl2 : (((s[m9].toNat : Nat) : Int) == 39) = false := by simp; omega
      clear hbad hm9 hl
      go_enter Tryd.func43, Tryd.ntmps43
      go_wp2_with fail
      refine (HN.out _).mono ?_
      rintro e w1 ⟨⟨m, rfl⟩, hb⟩
      obtain ⟨⟨r0, r1, r2⟩, f0, f1, f2⟩ := (HZ.out.below hb (by simp)).facts
      have HB := Lib.hid (below_trans ((Below.refl _ w).alloc (Nat.le_refl _) _) hb)
      clear hb
      go_wp2
      refine bodyPost_ret (v := .tuple #[.agg #[.int .i64 0, .int .i64 0, .string ⟨#[]⟩], .int .i64 5]) (by simp [results, Tryd.results43, go_sem, r0, r1, r2]) rfl ?_
      exact ⟨rfl, below_res HB.out _ _ _⟩
    · have hf2 : (((s[0].toNat : Nat) : Int) == 39) = false := by simp; omega
      clear hbad hm9 hf
      go_enter Tryd.func43, Tryd.ntmps43
      go_wp2_with fail
      refine (HN.out _).mono ?_
      rintro e w1 ⟨⟨m, rfl⟩, hb⟩
      obtain ⟨⟨r0, r1, r2⟩, f0, f1, f2⟩ := (HZ.out.below hb (by simp)).facts
      have HB := Lib.hid (below_trans ((Below.refl _ w).alloc (Nat.le_refl _) _) hb)
      clear hb
      go_wp2
      refine bodyPost_ret (v := .tuple #[.agg #[.int .i64 0, .int .i64 0, .string ⟨#[]⟩], .int .i64 5]) (by simp [results, Tryd.results43, go_sem, r0, r1, r2]) rfl ?_
      exact ⟨rfl, below_res HB.out _ _ _⟩
set_option maxRecDepth 100000 in
set_option maxHeartbeats 4000000 in
theorem rrd_quoted (s : ByteArray) (hs : s.size ≤ 1048576) (h1 : seq s ⟨#[110, 117, 108, 108]⟩ = false) (h2 : seq s ⟨#[102, 97, 108, 115, 101]⟩ = false) (h3 : seq s ⟨#[116, 114, 117, 101]⟩ = false) (h4 : ∀ n : Int, In64 n → s.data.toList ≠ itoa n) (w : World)
    (HN : ∀ W, Calls Tryd.prog 81 #[.string s] W fun e w' => (∃ m : Int, e = .returned (.tuple #[.int .i64 m, .bool false])) ∧ Below W.heap.size W w') (hsz : 2 ≤ s.size) (hf : s[0].toNat = 39) (hl : s[s.size - 1].toNat = 39) : Calls Tryd.prog 43 #[.string s] w (RdOut w s) := by
  have HZ := Lib.hid (Zero.new w)
  have HN := Lib.hid HN
  -- what is read hangs on what stands between the quotes
  have HE : Hid (∀ l, unQ (mid s (s.size - 1) 1) = some l → (∀ x ∈ l, x < 256) → if l.length ≤ 64 then readV s = ⟨2, 0, bs l⟩ ∧ readE s = 0 else readV s = ⟨0, 0, ⟨#[]⟩⟩ ∧ readE s = 5) := by
    show ∀ l, unQ (mid s (s.size - 1) 1) = some l → (∀ x ∈ l, x < 256) → _
    intro l hu hlt
    have hq := mid_quoted hsz hf hl hlt (esc_unQ _ _ hu)
    by_cases h64 : l.length ≤ 64
    · rw [if_pos h64]
      refine read_yes (by simp [V.may, may, bs_size]; exact h64) (by simp [In64]) ?_
      rw [pr_text (by rw [bs_size]; exact h64), ← hq, bs_sb]
    · rw [if_neg h64]
      refine read_no h1 h2 h3 h4 fun t ht e => ?_
      have := (quoted_mid e).1
      rw [this, unQ_esc] at hu
      injection hu with hu
      rw [← hu, sb_len] at h64
      exact h64 ht
  have HF : Hid (unQ (mid s (s.size - 1) 1) = none → readV s = ⟨0, 0, ⟨#[]⟩⟩ ∧ readE s = 5) := by
    show unQ (mid s (s.size - 1) 1) = none → _
    intro hu
    refine read_no h1 h2 h3 h4 fun t ht e => ?_
    have := (quoted_mid e).1
    rw [this, unQ_esc] at hu
    cases hu
  obtain ⟨m, hm⟩ : ∃ m, s.size - 1 = m := ⟨_, rfl⟩
  have hm1 : (s.size : Int) - 1 = (m : Int) := by omega
  have hm2 : m < s.size := by omega
  have hm3 : 1 ≤ m := by omega
  have hd : decide ((s.size : Int) < 2) = false := decide_eq_false (by omega)
  have h0 : 0 < s.size := by omega
  have hl' : s[m].toNat = 39 := by simpa only [hm] using hl
  rw [hm] at HE HF
  unfold RdOut
  generalize readV s = rv at *
  generalize readE s = re at *
  clear h4 hl hm
  go_enter Tryd.func43, Tryd.ntmps43
  go_wp2_with fail
  refine (HN.out _).mono ?_
  rintro e w1 ⟨⟨m5, rfl⟩, hb⟩
  have hgw : w.heap.size < w1.heap.size := (HZ.out.below hb (by simp)).lt
  have HZ1 := Lib.hid (HZ.out.below hb (by simp))
  have HB := Lib.hid (below_trans ((Below.refl _ w).alloc (Nat.le_refl _) _) hb)
  clear hb HZ HN
  go_wp2
  go_loopw [6, 7] (fun v0 i wr => ∃ (j : Nat) (l : List Nat) (u : Value), u = v0 ∧ 1 ≤ j ∧ j ≤ m ∧ i = .int .i64 (j : Int) ∧ Own w1 wr u l ∧ l.length ≤ j ∧ unQ (mid s m 1) = (unQ (mid s m j)).map fun z => l ++ z) (fun _ i _ => s.size - (intOf i).toNat)
  case atStart => exact ⟨1, [], _, rfl, by omega, hm3, rfl, Own.nil_ w1, by simp, by simp⟩
  case round =>
    obtain ⟨j, l, u, rfl, hj1, hjm, rfl, ho, hlj, hun⟩ := hrel
    obtain ⟨⟨r0, r1, r2⟩, f0, f1, f2⟩ := (HZ1.out.below ho.2 hgw).facts
    have HO := Lib.hid ho
    have HU := Lib.hid hun
    have HBL := Lib.hid (fun (W' : World) (h : Below w1.heap.size w1 W') (a b c : Value) => below_res (w := w) (below_trans HB.out h) a b c)
    clear ho hun
    by_cases hlt : j < m
    · have hjs : j < s.size := by omega
      have hmd := mid_next s m j hlt (by omega)
      have hdj : decide ((j : Int) < (m : Int)) = true := decide_eq_true (by omega)
      have hx256 := s[j].toNat_lt
      generalize hxe : s[j].toNat = x at hmd hx256
      have HM := Lib.hid hmd
      clear hmd
      by_cases hx : x = 39
      · subst hx
        by_cases h2 : j + 1 < m
        · have hj1s : j + 1 < s.size := by omega
          have hmd2 := mid_next s m (j + 1) h2 (by omega)
          have hdg : decide (((j : Nat) : Int) + 1 ≥ (m : Int)) = false := decide_eq_false (by omega)
          have hy256 := s[j + 1].toNat_lt
          generalize hye : s[j + 1].toNat = y at hmd2 hy256
          have HM2 := Lib.hid hmd2
          clear hmd2
          by_cases hy : y = 39
          · subst hy
            go_wp2_with (at_builtin; go_must (refine wpList_app rfl (.tmp 72) (.tmp 76) rfl u _ l rfl (HO.out.alloc _).1 (fun _ => True) _ 1 1 [39] rfl (by exact one_at _ _ 39 _ (by first | rfl | simp) (by rfl) (by omega)) (by omega) ?_); intro v1 w3 hown hgrow; have HS := Lib.hid (Own.step (HO.out.alloc _) hgrow hown); clear hown hgrow)
            go_roundw
            case rel =>
              refine ⟨j + 2, l ++ [39], _, rfl, by omega, by omega, by go_num, HS.out, by simp; omega, ?_⟩
              rw [HU.out, HM.out, HM2.out, unQ_two]
              simp [Option.map_map, Function.comp_def]
            case measure => simp [intOf]; omega
          · have hz2 : ((y : Int) == 39) = false := by simp; omega
            have hn : rv = ⟨0, 0, ⟨#[]⟩⟩ ∧ re = 5 := HF.out (by rw [HU.out, HM.out, HM2.out, unQ_bad hy]; rfl)
            obtain ⟨rfl, rfl⟩ := hn
            go_wp2
            refine bodyPost_ret (v := .tuple #[.agg #[.int .i64 0, .int .i64 0, .string ⟨#[]⟩], .int .i64 5]) (by simp [results, Tryd.results43, go_sem, r0, r1, r2]) rfl ?_
            exact ⟨rfl, HBL.out _ HO.out.2 _ _ _⟩
        · have hdg : decide (((j : Nat) : Int) + 1 ≥ (m : Int)) = true := decide_eq_true (by omega)
          have hn : rv = ⟨0, 0, ⟨#[]⟩⟩ ∧ re = 5 := HF.out (by rw [HU.out, HM.out, mid_end s m (j + 1) (by omega), unQ_one]; rfl)
          obtain ⟨rfl, rfl⟩ := hn
          go_wp2
          refine bodyPost_ret (v := .tuple #[.agg #[.int .i64 0, .int .i64 0, .string ⟨#[]⟩], .int .i64 5]) (by simp [results, Tryd.results43, go_sem, r0, r1, r2]) rfl ?_
          exact ⟨rfl, HBL.out _ HO.out.2 _ _ _⟩
      · have hz : ((x : Int) == 39) = false := by simp; omega
        go_wp2_with (at_builtin; go_must (refine wpList_app rfl (.tmp 72) (.tmp 76) rfl u _ l rfl (HO.out.alloc _).1 (fun _ => True) _ 1 1 [x] rfl (by exact one_at _ _ x _ (by first | rfl | simp) (by rfl) (by omega)) (by omega) ?_); intro v1 w3 hown hgrow; have HS := Lib.hid (Own.step (HO.out.alloc _) hgrow hown); clear hown hgrow)
        go_roundw
        case rel =>
          refine ⟨j + 1, l ++ [x], _, rfl, by omega, by omega, by go_num, HS.out, by simp; omega, ?_⟩
          rw [HU.out, HM.out, unQ_cons hx]
          simp [Option.map_map, Function.comp_def]
        case measure => simp [intOf]; omega
    · obtain rfl : j = m := by omega
      have hdj : decide ((j : Int) < (j : Int)) = false := decide_eq_false (by omega)
      have hl := HE.out l (by rw [HU.out, mid_end s j j (by omega)]; simp [unQ]) HO.out.lt
      obtain ⟨A, c, rfl, _, _, hr⟩ := HO.out.1.reads
      have hcv := run_conv _ A _ c l _ hr
      clear hr
      by_cases h64 : l.length ≤ 64
      · rw [if_pos h64] at hl
        obtain ⟨rfl, rfl⟩ := hl
        have hd64 : decide (((l.length : Nat) : Int) > 64) = false := decide_eq_false (by omega)
        obtain ⟨T, hT⟩ : ∃ T, bs l = T := ⟨_, rfl⟩
        rw [hT] at hcv
        have HTT := Lib.hid hT
        clear hT
        go_wp2
        refine bodyPost_ret (v := .tuple #[.agg #[.int .i64 2, .int .i64 0, .string T], .int .i64 0]) (by simp [results, Tryd.results43, go_sem, r0, r1, r2]) rfl ?_
        exact ⟨by rw [HTT.out], HBL.out _ HO.out.2 _ _ _⟩
      · rw [if_neg h64] at hl
        obtain ⟨rfl, rfl⟩ := hl
        have hd64 : decide (((l.length : Nat) : Int) > 64) = true := decide_eq_true (by omega)
        go_wp2
        refine bodyPost_ret (v := .tuple #[.agg #[.int .i64 0, .int .i64 0, .string ⟨#[]⟩], .int .i64 5]) (by simp [results, Tryd.results43, go_sem, r0, r1, r2]) rfl ?_
        exact ⟨rfl, HBL.out _ HO.out.2 _ _ _⟩
theorem rread_any (s : ByteArray) (hs : s.size ≤ 1048576) (w : World) : Calls Tryd.prog 43 #[.string s] w (RdOut w s) := by
  cases h1 : seq s ⟨#[110, 117, 108, 108]⟩
  · cases h2 : seq s ⟨#[102, 97, 108, 115, 101]⟩
    · cases h3 : seq s ⟨#[116, 114, 117, 101]⟩
      · by_cases hn : ∃ n : Int, In64 n ∧ s.data.toList = itoa n
        · obtain ⟨n, hn, hs'⟩ := hn
          refine rrd_num s h1 h2 h3 n hn hs' w fun W => ?_
          refine (numb_any s (by omega) W).mono ?_
          rintro e w' ⟨hcase, hb⟩
          rcases hcase with ⟨n', hn', hs2, rfl⟩ | ⟨hno, _⟩
          · have : n' = n := by
              have e1 := pi_itoa n hn
              have e2 := pi_itoa n' hn'
              rw [← hs', hs2, e2] at e1
              injection e1
            rw [this]
            exact ⟨rfl, hb⟩
          · exact absurd hs' (hno n hn)
        · have h4 : ∀ n : Int, In64 n → s.data.toList ≠ itoa n := fun n h e => hn ⟨n, h, e⟩
          have HN : ∀ W, Calls Tryd.prog 81 #[.string s] W fun e w' => (∃ m : Int, e = .returned (.tuple #[.int .i64 m, .bool false])) ∧ Below W.heap.size W w' := by
            intro W
            refine (numb_any s (by omega) W).mono ?_
            rintro e w' ⟨hcase, hb⟩
            rcases hcase with ⟨n', hn', hs2, _⟩ | ⟨_, m, rfl⟩
            · exact absurd hs2 (h4 n' hn')
            · exact ⟨⟨m, rfl⟩, hb⟩
          by_cases hsz : 2 ≤ s.size
          · by_cases hf : s[0].toNat = 39
            · by_cases hl : s[s.size - 1].toNat = 39
              · exact rrd_quoted s hs h1 h2 h3 h4 w HN hsz hf hl
              · exact rrd_none s (by omega) h1 h2 h3 h4 w HN (Or.inr (Or.inr ⟨by omega, hl⟩))
            · exact rrd_none s (by omega) h1 h2 h3 h4 w HN (Or.inr (Or.inl ⟨by omega, hf⟩))
          · exact rrd_none s (by omega) h1 h2 h3 h4 w HN (Or.inl (by omega))
      · exact rrd_bool s h1 true (by rw [h2]; rfl) h3 w
    · have h3 : seq s ⟨#[116, 114, 117, 101]⟩ = false := by
        rw [Bool.eq_false_iff]
        intro h3
        have := (seq_eq.1 h2).symm.trans (seq_eq.1 h3)
        cases this
      exact rrd_bool s h1 false (by rw [h2]; rfl) h3 w
  · exact rrd_null s h1 w
end Go.Proofs.YtjfpkjpicalfmaaDoor
