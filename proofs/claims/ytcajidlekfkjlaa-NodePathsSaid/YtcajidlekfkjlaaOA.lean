/-
STAGE 8: childOf: the child's number in a cell.
-/
import Derived.Test.YtcajidlekfkjlaaNF
import Derived.Test.YtcajidlekfkjlaaNR
namespace Go.Proofs.Ytcajidlekfkjlaa
open Go.RowKit

def num (l : List Nat) : Nat := l.foldl (fun a x => a * 256 + x) 0
set_option maxRecDepth 100000 in
theorem num_snoc (l : List Nat) (x : Nat) : num (l ++ [x]) = num l * 256 + x := by simp [num]
set_option maxRecDepth 100000 in
theorem num_lt (l : List Nat) (h : ∀ x ∈ l, x < 256) : num l < 256 ^ l.length := by
  have := fold_lt l 0 0 h (by decide)
  simpa [num] using this
set_option maxRecDepth 100000 in
theorem num_take (l : List Nat) {k : Nat} (h : k < l.length) : num (l.take (k + 1)) = num (l.take k) * 256 + l.getD k 0 := by
  rw [List.take_succ_eq_append_getElem h, num_snoc]
  congr 1
  simp [List.getD, h]
set_option maxRecDepth 100000 in
theorem or_low32 (n b : Nat) (hn : n < 16777216) (hb : b < 256) : bits BinOp.or IntKind.u32 (((n * 256 : Nat) : Nat) : Int) (b : Int) = ((n * 256 + b : Nat) : Int) := by
  have hx : n * 256 ||| b < 2 ^ 32 := Nat.or_lt_two_pow (by omega) (by omega)
  have h1 : (BitVec.ofInt 32 (((n * 256 : Nat) : Nat) : Int)).toNat = n * 256 := by
    rw [BitVec.ofInt_natCast, BitVec.toNat_ofNat]; exact Nat.mod_eq_of_lt (by omega)
  have h2 : (BitVec.ofInt 32 (b : Int)).toNat = b := by
    rw [BitVec.ofInt_natCast, BitVec.toNat_ofNat]; exact Nat.mod_eq_of_lt (by omega)
  have h := Nat.two_pow_add_eq_or_of_lt (i := 8) (b := b) (by omega) n
  show IntKind.u32.wrap ((BitVec.ofInt 32 (((n * 256 : Nat) : Nat) : Int) ||| BitVec.ofInt 32 (b : Int)).toNat : Int) = _
  rw [BitVec.toNat_or, h1, h2, IntKind.wrap_u32]
  rw [show n * 256 ||| b = n * 256 + b by rw [Nat.mul_comm, ← h, Nat.mul_comm]]
  omega
set_option maxHeartbeats 1000000 in
set_option maxRecDepth 100000 in
theorem childOf_any (x : CV) (w : World) {T : Nat → Prop} (h : x.In w T) (hk : 4 ≤ x.m) :
    Calls Try.prog 85 #[x.agg] w fun e w' => e = .returned (.int .u32 (childN x.d : Int)) ∧ Below w.heap.size w w' := by
  have hmc := h.mc
  have hml := h.ml
  have hb := h.b
  have hlen := h.len
  obtain ⟨u, kk, A, m, c, d⟩ := x
  unfold CV.agg
  dsimp only at hmc hml hk hb hlen ⊢
  clear h
  have hd := hb.drop (k := m - 4) (c := c) (by omega) hmc
  obtain ⟨ad, rfl, _⟩ := hb.2.2 (by omega)
  obtain ⟨q, hq⟩ : ∃ q, q = m - 4 := ⟨_, rfl⟩
  obtain ⟨t, ht⟩ : ∃ t, t = d.drop (m - 4) := ⟨_, rfl⟩
  have hcn : childN d = num (t.take 4) := by
    unfold childN num
    rw [ht, hlen, List.take_of_length_le (by simp; omega)]
  rw [if_neg (by omega), ← ht, ← hq, show m - q = 4 by omega] at hd
  rw [hcn]
  have HD := Lib.hid hd
  have s1 : (m : Int) - 4 = (q : Int) := by omega
  have s2 : IntKind.i64.wrap (q : Int) = (q : Int) := IntWalk.i64_in _ (by omega)
  have s3 : q ≤ m := by omega
  have s4 : (m : Int) - (q : Int) = 4 := by omega
  have s5 : m - q = 4 := by omega
  have s6 : q ≠ c := by omega
  have s7 : q ≤ c := by omega
  clear hb hd hq ht hcn hk
  go_enter Try.func85, Try.ntmps85
  go_wp2_with fail
  go_loopw [3, 14] (fun a i wr => ∃ k : Nat, k ≤ 4 ∧ i = .int .i64 (k : Int) ∧ a = .int .u32 (num (t.take k) : Int) ∧ Below w.heap.size w wr) (fun _ i _ => 4 - (intOf i).toNat)
  case atStart => exact ⟨0, by omega, rfl, by simp [num], (Below.refl _ _).alloc (Nat.le_refl _) _⟩
  case round =>
    obtain ⟨k, hk, rfl, rfl, hbw⟩ := hrel
    have HB := Lib.hid hbw
    by_cases hlt : k < 4
    · obtain ⟨ad', e, hx, hc⟩ := (HD.out.keep (Fr.of_below hbw No) fun _ _ hn => hn).at_ hlt
      obtain rfl : ad.add q = ad' := by injection e
      have htl := HD.out.len
      have hnk := num_take t (k := k) (by omega)
      have hnl := num_lt (t.take k) (fun y hy => HD.out.lt y (List.mem_of_mem_take hy))
      have hnl' : num (t.take k) < 16777216 := Nat.lt_of_lt_of_le hnl (by
        have := Nat.pow_le_pow_right (n := 256) (i := (t.take k).length) (j := 3) (by omega) (by rw [List.length_take]; omega)
        exact this)
      obtain ⟨b, hb⟩ : ∃ b, b = t.getD k 0 := ⟨_, rfl⟩
      obtain ⟨v, hv⟩ : ∃ v, v = num (t.take k) := ⟨_, rfl⟩
      rw [← hb] at hx hc hnk
      rw [← hv] at hnk hnl' ⊢
      have hor := or_low32 v b hnl' hx
      have hsh : IntKind.u32.wrap ((v : Int) * 256) = ((v * 256 : Nat) : Int) := by rw [IntKind.wrap_u32]; omega
      have HNK := Lib.hid hnk
      have HV := Lib.hid hv
      have HOR := Lib.hid hor
      clear e htl hnl hbw hnk hv hb
      go_wp2_with fail
      go_roundw
      case rel =>
        refine ⟨k + 1, by omega, by go_num, ?_, HB.out⟩
        rw [HNK.out]
        exact congrArg (Value.int .u32) hor
      case measure => simp [intOf]; omega
    · obtain rfl : k = 4 := by omega
      clear hbw
      go_wp2_with fail
      go_ret
      exact ⟨rfl, HB.out⟩
end Go.Proofs.Ytcajidlekfkjlaa
