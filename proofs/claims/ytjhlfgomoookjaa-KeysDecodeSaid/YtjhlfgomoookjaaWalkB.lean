/-
  THE WALKS OF withNumber, withText, withValue.
-/
import Derived.Test.YtjhlfgomoookjaaWalkA
import Derived.Test.YtjhlfgomoookjaaKeys
import Derived.Deep.DeepMust
import Derived.Deep.RegionLaw
import Derived.Deep.DrawnRows
import Derived.Laws.Bits64
namespace Go.Proofs.Ytjhlfgomoookjaa
open Go.RowKit Go.Sort
attribute [local go_sem high] run_eqv run_neqv run_eqs

theorem one_of (w : World) (v : Int) (x : Nat) (hv : v = (x : Int)) (hx : x < 256) : RB (w.alloc (.cells #[.int .u8 v] 5)) (fun _ => True) (some ⟨w.heap.size, 0, none⟩) 1 [x] := by
  subst hv
  exact one_rb w x hx _ trivial
theorem two_of (w : World) (x y : Nat) (hx : x < 256) (hy : y < 256) : RB (w.alloc (.cells #[.int .u8 (x : Int), .int .u8 (y : Int)] 5)) (fun _ => True) (some ⟨w.heap.size, 0, none⟩) 2 [x, y] :=
  RB.of_blk (l := [x, y]) (Blk.new w 5 _) trivial (by simp; omega) rfl
theorem one_at (w : World) (v : Int) (x b : Nat) (hb : b = w.heap.size) (hv : v = (x : Int)) (hx : x < 256) : RB (w.alloc (.cells #[.int .u8 v] 5)) (fun _ => True) (some ⟨b, 0, none⟩) 1 [x] := by
  subst hb
  exact one_of w v x hv hx
theorem two_at (w : World) (x y b : Nat) (hb : b = w.heap.size) (hx : x < 256) (hy : y < 256) : RB (w.alloc (.cells #[.int .u8 (x : Int), .int .u8 (y : Int)] 5)) (fun _ => True) (some ⟨b, 0, none⟩) 2 [x, y] := by
  subst hb
  exact two_of w x y hx hy
/-- a row of bytes that grows, of the call that began in w -/
def Own (w wr : World) (v : Value) (l : List Nat) : Prop := Ow wr (fun b => w.heap.size ≤ b) v l.length l ∧ Below w.heap.size w wr
theorem Own.nil_ (w : World) : Own w w (.slice none 0 0) [] := ⟨Ow.nil_ _ _, Below.refl _ _⟩
theorem Own.nil_at {w wr : World} (h : Below w.heap.size w wr) : Own w wr (.slice none 0 0) [] := ⟨Ow.nil_ _ _, h⟩
theorem Own.step {w wr w1 : World} {v v' : Value} {n' : Nat} {l l' : List Nat} (h : Own w wr v l) (hgrow : wr.grownBy w1 v.ownBlock) (hn : Ow w1 (fun b => w.heap.size ≤ b ∨ wr.heap.size ≤ b) v' n' l') : Own w w1 v' l' := by
  have hs := h.2.size
  have hl := hn.len
  subst hl
  exact ⟨hn.mono fun b _ hb => by omega, h.2.grown hgrow hs fun k hk => h.1.2.2 k hk⟩
theorem Own.alloc {w wr : World} {v : Value} {l : List Nat} (h : Own w wr v l) (o : Obj) : Own w (wr.alloc o) v l := ⟨h.1.alloc o, h.2.alloc h.2.size o⟩
theorem Own.drew {w wr : World} {v : Value} {l : List Nat} (h : Own w wr v l) : Own w wr.drew v l := ⟨h.1.drew, h.2.drew⟩
theorem Own.lt {w wr : World} {v : Value} {l : List Nat} (h : Own w wr v l) : ∀ x ∈ l, x < 256 := h.1.2.1
/-- what a call answers that lays bytes behind a row -/
def Grown (w0 : World) (l : List Nat) (e : Ending) (w' : World) : Prop := ∃ v, e = .returned v ∧ Own w0 w' v l
theorem Own.ans {w wr : World} {v : Value} {l : List Nat} (h : Own w wr v l) : Grown w l (.returned v) wr := ⟨v, rfl, h⟩

theorem shr_byte (x k : Nat) : IntKind.u8.wrap ((x : Int) / 2 ^ (8 * (k : Int)).toNat) = ((x / 256 ^ k % 256 : Nat) : Int) := by
  have h2 : (8 * (k : Int)).toNat = 8 * k := by omega
  have h4 : ((x : Int) / 2 ^ (8 * k)) = ((x / 256 ^ k : Nat) : Int) := by
    have : (2 : Int) ^ (8 * k) = ((256 ^ k : Nat) : Int) := by
      rw [Int.pow_mul]
      simp
    rw [this]
    simp
  rw [h2, h4]
  simp only [IntKind.wrap_u8]
  omega
theorem wrap8 (k : Nat) (h : k ≤ 8) : IntKind.i64.wrap (8 * (k : Int)) = 8 * (k : Int) := IntWalk.i64_in _ (by omega)
theorem be_snoc (k x : Nat) : be (k + 1) x = be k (x / 256) ++ [x % 256] := by
  induction k generalizing x with
  | zero => simp [be]
  | succ k ih =>
    have h1 : be (k + 2) x = (x / 256 ^ (k + 1) % 256) :: be (k + 1) x := rfl
    have h2 : be (k + 1) (x / 256) = (x / 256 / 256 ^ k % 256) :: be k (x / 256) := rfl
    rw [h1, ih, h2, Nat.div_div_eq_div_mul, ← Nat.pow_succ']
    rfl

set_option maxRecDepth 100000 in
set_option maxHeartbeats 1000000 in
theorem withNumber_any (w0 w : World) (v : Value) (l : List Nat) (m : Nat) (hl : l.length ≤ 1099511627776) (h : Own w0 w v l) :
    Calls Try.prog 33 #[v, .int .u64 (m : Int)] w (Grown w0 (l ++ be 8 m)) := by
  have H0 := Lib.hid h
  clear h
  go_enter Try.func33, Try.ntmps33
  go_wp2
  go_loopw [0, 5] (fun v0 i wr => ∃ (c : Nat) (p : Int) (u : Value), u = v0 ∧ c ≤ 8 ∧ p = (c : Int) - 1 ∧ i = .int .i64 p ∧ Own w0 wr u (l ++ be (8 - c) (m / 256 ^ c))) (fun _ i _ => (intOf i + 1).toNat)
  case atStart => exact ⟨8, 7, _, rfl, by omega, rfl, rfl, by simpa [be] using H0.out⟩
  case round =>
    obtain ⟨c, p, u, rfl, hc, hp, rfl, ho⟩ := hrel
    have HO := Lib.hid ho
    clear ho
    rcases c with _ | q
    · have hg0 : decide (p ≥ 0) = false := decide_eq_false (by omega)
      clear hp
      go_wp2
      go_ret
      simpa using HO.out.ans
    · obtain rfl : p = (q : Int) := by omega
      have hlen : (l ++ be (8 - (q + 1)) (m / 256 ^ (q + 1))).length ≤ 1099511627776 + 8 := by simp [be_len]; omega
      have hg0 : decide ((q : Int) ≥ 0) = true := decide_eq_true (by omega)
      have hwr := wrap8 q (by omega)
      clear hp
      go_wp2_with (at_builtin; go_must (refine wpList_app rfl (.tmp 10) (.tmp 16) rfl u _ (l ++ be (8 - (q + 1)) (m / 256 ^ (q + 1))) rfl (HO.out.alloc _).1 (fun _ => True) (some ⟨wr.heap.size, 0, none⟩) 1 1 [m / 256 ^ q % 256] rfl (one_of _ _ _ (by exact shr_byte m q) (by omega)) (by omega) ?_); intro v1 w1 hown hgrow; have HS := Lib.hid (Own.step (HO.out.alloc _) hgrow hown); clear hown hgrow)
      go_roundw
      case rel =>
        refine ⟨q, (q : Int) - 1, _, rfl, by omega, rfl, by go_num, ?_⟩
        have e1 : 8 - q = (8 - (q + 1)) + 1 := by omega
        rw [e1, be_snoc, Nat.div_div_eq_div_mul, ← Nat.pow_succ, ← List.append_assoc]
        exact HS.out
      case measure => simp [intOf]

theorem sb_at (s : ByteArray) (j : Nat) (h : j < s.size) : (sb s).take (j + 1) = (sb s).take j ++ [s[j].toNat] := by
  have hl : j < (sb s).length := by rw [sb_len]; exact h
  rw [List.take_succ_eq_append_getElem hl]
  congr 1
  simp only [sb, List.getElem_map, Array.getElem_toList]
  rfl
theorem tx_at (s : ByteArray) (j : Nat) (h : j < s.size) : tx ((sb s).take (j + 1)) = tx ((sb s).take j) ++ (if s[j].toNat = 0 then [0, 255] else [s[j].toNat]) := by
  rw [sb_at s j h, tx_append]
  congr 1

set_option maxRecDepth 100000 in
set_option maxHeartbeats 1000000 in
theorem withText_any (w0 w : World) (v : Value) (l : List Nat) (s : ByteArray) (hl : l.length ≤ 1099511627776) (hs : s.size ≤ 1099511627776) (h : Own w0 w v l) :
    Calls Try.prog 34 #[v, .string s] w (Grown w0 (l ++ (tx (sb s) ++ [0, 1]))) := by
  have H0 := Lib.hid h
  clear h
  go_enter Try.func34, Try.ntmps34
  go_wp2
  go_loopw [0, 8] (fun v0 i wr => ∃ (j : Nat) (u : Value), u = v0 ∧ j ≤ s.size ∧ i = .int .i64 (j : Int) ∧ Own w0 wr u (l ++ tx ((sb s).take j))) (fun _ i _ => s.size - (intOf i).toNat)
  case atStart => exact ⟨0, _, rfl, by omega, rfl, by simpa [tx] using H0.out⟩
  case round =>
    obtain ⟨j, u, rfl, hj, rfl, ho⟩ := hrel
    have hlen : (l ++ tx ((sb s).take j)).length ≤ 4 * 1099511627776 := by
      have := tx_len ((sb s).take j)
      simp at this ⊢
      omega
    have HO := Lib.hid ho
    clear ho
    by_cases hlt : j < s.size
    · have hby : s[j].toNat < 256 := s[j].toNat_lt
      have HE := Lib.hid (tx_at s j hlt)
      clear H0
      by_cases hz : s[j].toNat = 0
      · have hz2 : (((s[j].toNat : Nat) : Int) == 0) = true := by simpa using hz
        have hlen2 : (l ++ tx ((sb s).take j) ++ [0]).length ≤ 5 * 1099511627776 := by simp only [List.length_append, List.length_singleton] at hlen ⊢; omega
        go_wp2_with (first
          | (at_builtin; refine wpList_app rfl (.tmp 11) (.tmp 15) rfl u _ (l ++ tx ((sb s).take j)) rfl (HO.out.alloc _).1 (fun _ => True) (some ⟨wr.heap.size, 0, none⟩) 1 1 [0] rfl (one_of _ _ _ (by rfl) (by omega)) (by omega) ?_; intro v1 w1 hown hgrow; have HS := Lib.hid (Own.step (HO.out.alloc _) hgrow hown); clear hown hgrow)
          | (at_builtin; go_must (refine wpList_app rfl (.tmp 21) (.tmp 22) rfl v1 _ (l ++ tx ((sb s).take j) ++ [0]) rfl (HS.out.alloc _).1 (fun _ => True) (some ⟨w1.heap.size, 0, none⟩) 1 1 [255] rfl (one_of _ _ _ (by rfl) (by omega)) (by omega) ?_); intro v2 w2 hown hgrow; have HS2 := Lib.hid (Own.step (HS.out.alloc _) hgrow hown); clear hown hgrow))
        go_roundw
        case rel =>
          refine ⟨j + 1, _, rfl, by omega, by go_num, ?_⟩
          have := HS2.out
          rw [HE.out, if_pos hz]
          simpa using this
        case measure => simp [intOf]; omega
      · have hz2 : (((s[j].toNat : Nat) : Int) == 0) = false := by simpa using hz
        go_wp2_with (at_builtin; go_must (refine wpList_app rfl (.tmp 11) (.tmp 15) rfl u _ (l ++ tx ((sb s).take j)) rfl (HO.out.alloc _).1 (fun _ => True) (some ⟨wr.heap.size, 0, none⟩) 1 1 [s[j].toNat] rfl (one_of _ _ _ (by rfl) (by omega)) (by omega) ?_); intro v1 w1 hown hgrow; have HS := Lib.hid (Own.step (HO.out.alloc _) hgrow hown); clear hown hgrow)
        go_roundw
        case rel =>
          refine ⟨j + 1, _, rfl, by omega, by go_num, ?_⟩
          rw [HE.out, if_neg hz, ← List.append_assoc]
          exact HS.out
        case measure => simp [intOf]; omega
    · obtain rfl : j = s.size := by omega
      have hfull : (sb s).take s.size = sb s := List.take_of_length_le (by rw [sb_len]; omega)
      rw [hfull] at HO hlen
      go_wp2_with (at_builtin; go_must (refine wpList_app rfl (.tmp 25) (.tmp 26) rfl u _ (l ++ tx (sb s)) rfl (HO.out.alloc _).1 (fun _ => True) (some ⟨wr.heap.size, 0, none⟩) 2 2 [0, 1] rfl (two_of _ 0 1 (by omega) (by omega)) (by omega) ?_); intro v1 w1 hown hgrow; have HS := Lib.hid (Own.step (HO.out.alloc _) hgrow hown); clear hown hgrow)
      go_ret
      rw [← List.append_assoc]
      exact HS.out.ans

/-- a value's block, and its cells -/
def VB (w : World) (g : Nat) (k n : Int) (s : ByteArray) : Prop := Blk w g 34 #[.int .i64 k, .int .i64 n, .string s]
theorem VB.new (w : World) (k n : Int) (s : ByteArray) : VB (w.alloc (.cells #[.int .i64 k, .int .i64 n, .string s] 34)) w.heap.size k n s := Blk.new w 34 _
theorem VB.cells {w : World} {g : Nat} {k n : Int} {s : ByteArray} (h : VB w g k n s) : w.cell? ⟨g, 0, none⟩ = some (.int .i64 k) ∧ w.cell? ⟨g, 1, none⟩ = some (.int .i64 n) ∧ w.cell? ⟨g, 2, none⟩ = some (.string s) :=
  ⟨h.cell 0, h.cell 1, h.cell 2⟩
theorem VB.after {w0 w w1 : World} {g : Nat} {k n : Int} {s : ByteArray} {v : Value} {l : List Nat} (h : VB w g k n s) (ho : Own w0 w v l) (hg : w.grownBy w1 v.ownBlock) : VB w1 g k n s :=
  h.grown hg (Blk.own_ne (w := w) h ho.1.1 (by decide))
theorem box_own {w0 w : World} {v : Value} {l : List Nat} (h : Own w0 w v l) (k n : Int) (s : ByteArray) : Own w0 (w.alloc (.cells #[.int .i64 k, .int .i64 n, .string s] 34)) v l := h.alloc _

set_option maxRecDepth 100000 in
set_option maxHeartbeats 1000000 in
theorem wv0 (w0 w : World) (v : Value) (l : List Nat) (hl : l.length ≤ 1099511627776) (h : Own w0 w v l) (n : Int) (s : ByteArray) :
    Calls Try.prog 23 #[v, .agg #[.int .i64 0, .int .i64 n, .string s]] w (Grown w0 (l ++ one ⟨0, n, s⟩)) := by
  have e : one ⟨0, n, s⟩ = [1] := rfl
  rw [e]
  clear e
  have H0 := Lib.hid (box_own h 0 n s)
  clear h
  go_enter Try.func23, Try.ntmps23
  go_wp2_with (at_builtin; go_must (refine wpList_app rfl (.tmp 34) (.tmp 35) rfl v _ l rfl (H0.out.alloc _).1 (fun _ => True) _ 1 1 [1] rfl (by exact one_at _ _ 1 _ (by simp) (by rfl) (by omega)) (by omega) ?_); intro v1 w1 hown hgrow; have HS := Lib.hid (Own.step (H0.out.alloc _) hgrow hown); clear hown hgrow)
  go_ret
  exact HS.out.ans
set_option maxRecDepth 100000 in
set_option maxHeartbeats 1000000 in
theorem wv3 (w0 w : World) (v : Value) (l : List Nat) (hl : l.length ≤ 1099511627776) (h : Own w0 w v l) (n : Nat) (hn : n < 2) (s : ByteArray) :
    Calls Try.prog 23 #[v, .agg #[.int .i64 3, .int .i64 (n : Int), .string s]] w (Grown w0 (l ++ [2 + n])) := by
  have H0 := Lib.hid (box_own h 3 n s)
  clear h
  have hc : IntKind.u8.wrap (2 + (n : Int)) = ((2 + n : Nat) : Int) := by simp only [IntKind.wrap_u8]; omega
  have hc1 : IntKind.u8.wrap (n : Int) = (n : Int) := by simp only [IntKind.wrap_u8]; omega
  go_enter Try.func23, Try.ntmps23
  go_wp2_with (at_builtin; go_must (refine wpList_app rfl (.tmp 9) (.tmp 14) rfl v _ l rfl (H0.out.alloc _).1 (fun _ => True) _ 1 1 [2 + n] rfl (by exact one_at _ _ (2 + n) _ (by simp) (by omega) (by omega)) (by omega) ?_); intro v1 w1 hown hgrow; have HS := Lib.hid (Own.step (H0.out.alloc _) hgrow hown); clear hown hgrow)
  go_ret
  exact HS.out.ans
theorem xor_lo (m : Nat) (hm : m < 2 ^ 63) : m ^^^ 2 ^ 63 = 2 ^ 63 + m := by
  apply Nat.eq_of_testBit_eq
  intro i
  rw [Nat.testBit_xor, Nat.testBit_two_pow]
  rcases Nat.lt_trichotomy i 63 with h | h | h
  · rw [Nat.testBit_two_pow_add_gt h]
    simp [show ¬ 63 = i by omega]
  · subst h
    rw [Nat.testBit_two_pow_add_eq]
    simp
  · have h1 : m < 2 ^ i := Nat.lt_of_lt_of_le hm (Nat.pow_le_pow_right (by omega) (by omega))
    have h2 : 2 ^ 63 + m < 2 ^ i := Nat.lt_of_lt_of_le (show 2 ^ 63 + m < 2 ^ 64 by omega) (Nat.pow_le_pow_right (by omega) (by omega))
    rw [Nat.testBit_lt_two_pow h1, Nat.testBit_lt_two_pow h2]
    simp [show ¬ 63 = i by omega]
theorem xor_hi (m : Nat) (hm : m < 2 ^ 63) : (2 ^ 63 + m) ^^^ 2 ^ 63 = m := by
  rw [← xor_lo m hm, Nat.xor_assoc, Nat.xor_self, Nat.xor_zero]
theorem xor_top (n : Int) (h1 : -9223372036854775808 ≤ n) (h2 : n ≤ 9223372036854775807) : bits BinOp.xor IntKind.u64 (IntKind.u64.wrap n) 9223372036854775808 = (((n + 9223372036854775808).toNat : Nat) : Int) := by
  have e : IntKind.u64.wrap n = (((if n < 0 then (n + 18446744073709551616).toNat else n.toNat) : Nat) : Int) := by
    simp only [IntKind.wrap_u64]
    split <;> omega
  rw [e]
  have hx := bits_xor_u64_nat (if n < 0 then (n + 18446744073709551616).toNat else n.toNat) 9223372036854775808 (by split <;> omega) (by omega)
  refine hx.trans ?_
  congr 1
  split
  · have := xor_hi (n + 9223372036854775808).toNat (by omega)
    rw [show (2 : Nat) ^ 63 = 9223372036854775808 by decide] at this
    rw [← this]
    congr 1
    omega
  · have := xor_lo n.toNat (by omega)
    rw [show (2 : Nat) ^ 63 = 9223372036854775808 by decide] at this
    rw [this]
    omega

set_option maxRecDepth 100000 in
set_option maxHeartbeats 1000000 in
theorem wv1 (w0 w : World) (v : Value) (l : List Nat) (hl : l.length ≤ 1099511627000) (h : Own w0 w v l) (n : Int) (h1 : -9223372036854775808 ≤ n) (h2 : n ≤ 9223372036854775807) (s : ByteArray) :
    Calls Try.prog 23 #[v, .agg #[.int .i64 1, .int .i64 n, .string s]] w (Grown w0 (l ++ (4 :: be 8 (n + 9223372036854775808).toNat))) := by
  have H0 := Lib.hid (box_own h 1 n s)
  have hb0 := VB.new w 1 n s
  have HB := Lib.hid hb0
  have hX := xor_top n h1 h2
  obtain ⟨c0, c1, c2⟩ := VB.cells (Blk.drew hb0)
  obtain ⟨d0, d1, d2⟩ := hb0.cells
  generalize (n + 9223372036854775808).toNat = m at hX ⊢
  clear h h1 h2 hb0
  go_enter Try.func23, Try.ntmps23
  go_wp2
  go_region_law (first
    | (refine step_app rfl (.tmp 18) (.tmp 19) rfl v _ l rfl (H0.out.drew.alloc _).1 (fun _ => True) _ 1 1 [4] rfl (by exact one_at _ _ 4 _ (by simp) (by rfl) (by omega)) (by omega) ?_; intro v1 w1 hown hgrow; have HS := Lib.hid (Own.step (H0.out.drew.alloc _) hgrow hown); obtain ⟨e0, e1, e2⟩ := VB.cells (VB.after (Blk.alloc (Blk.drew HB.out) _) (H0.out.drew.alloc _) hgrow); clear hown hgrow)
    | (go_simp; go_wp2_with (go_at_call 33; refine (withNumber_any w0 _ v1 (l ++ [4]) m (by simp; omega) HS.out).mono ?_; rintro e w2 ⟨v2, rfl, ho2⟩; have HS2 := Lib.hid ho2; clear ho2)))
  all_goals
    go_wp2
    go_ret
    have hlast := HS2.out.ans
    rw [List.append_assoc] at hlast
    exact hlast
set_option maxRecDepth 100000 in
set_option maxHeartbeats 1000000 in
theorem wv2 (w0 w : World) (v : Value) (l : List Nat) (hl : l.length ≤ 1099511627000) (h : Own w0 w v l) (n : Int) (s : ByteArray) (hs : s.size ≤ 1099511627776) :
    Calls Try.prog 23 #[v, .agg #[.int .i64 2, .int .i64 n, .string s]] w (Grown w0 (l ++ (5 :: (tx (sb s) ++ [0, 1])))) := by
  have H0 := Lib.hid (box_own h 2 n s)
  have hb0 := VB.new w 2 n s
  have HB := Lib.hid hb0
  obtain ⟨c0, c1, c2⟩ := VB.cells (Blk.drew hb0)
  obtain ⟨d0, d1, d2⟩ := hb0.cells
  clear h hb0
  go_enter Try.func23, Try.ntmps23
  go_wp2
  go_region_law (first
    | (refine step_app rfl (.tmp 28) (.tmp 29) rfl v _ l rfl (H0.out.drew.alloc _).1 (fun _ => True) _ 1 1 [5] rfl (by exact one_at _ _ 5 _ (by simp) (by rfl) (by omega)) (by omega) ?_; intro v1 w1 hown hgrow; have HS := Lib.hid (Own.step (H0.out.drew.alloc _) hgrow hown); obtain ⟨e0, e1, e2⟩ := VB.cells (VB.after (Blk.alloc (Blk.drew HB.out) _) (H0.out.drew.alloc _) hgrow); clear hown hgrow)
    | (go_simp; go_wp2_with (go_at_call 34; refine (withText_any w0 _ v1 (l ++ [5]) s (by simp; omega) hs HS.out).mono ?_; rintro e w2 ⟨v2, rfl, ho2⟩; have HS2 := Lib.hid ho2; clear ho2)))
  all_goals
    go_wp2
    go_ret
    have hlast := HS2.out.ans
    rw [List.append_assoc] at hlast
    exact hlast
theorem withValue_any (w0 w : World) (u : Value) (l : List Nat) (hl : l.length ≤ 1099511627000) (h : Own w0 w u l) (v : V) (hm : v.may = true) (hn : N64 v) :
    Calls Try.prog 23 #[u, .agg #[.int .i64 v.k, .int .i64 v.n, .string v.s]] w (Grown w0 (l ++ one v)) := by
  obtain ⟨k, n, s⟩ := v
  obtain ⟨h1, h2⟩ := hn
  simp only at h1 h2 ⊢
  replace hm : may k n s = true := hm
  have hk := may_kind hm
  have hk4 : k = 0 ∨ k = 1 ∨ k = 2 ∨ k = 3 := by omega
  rcases hk4 with rfl | rfl | rfl | rfl
  · exact wv0 w0 w u l (by omega) h n s
  · exact wv1 w0 w u l (by omega) h n h1 h2 s
  · refine wv2 w0 w u l hl h n s ?_
    simp [may] at hm
    omega
  · simp [may] at hm
    have hn : n = ((n.toNat : Nat) : Int) := by omega
    have e : one ⟨3, n, s⟩ = [2 + n.toNat] := rfl
    rw [e]
    have := wv3 w0 w u l (by omega) h n.toNat (by omega) s
    rw [← hn] at this
    exact this
end Go.Proofs.Ytjhlfgomoookjaa
