/-
WalkG WalkH WalkI WalkJ WalkK
-/
import Derived.Test.YtdhgbkibbileiaaGreatWalkA
set_option maxRecDepth 100000
namespace Go.Proofs.YtdhgbkibbileiaaGreat
open Go.RowKit
def frontP (l : List Nat) : Nat × Nat := (Cd.front l).getD (0, 0)
def frontV (l : List Nat) : Value := .tuple #[.int .u64 (((frontP l).1 : Nat) : Int), .int .i64 (((frontP l).2 : Nat) : Int)]
theorem frontV_none {l : List Nat} (h : Cd.front l = none) : Value.tuple #[.int .u64 0, .int .i64 0] = frontV l := by
 unfold frontV frontP
 rw [h]
 rfl
theorem frontV_some {l : List Nat} {x n : Nat} (h : Cd.front l = some (x, n)) : frontV l = Value.tuple #[.int .u64 (x : Int), .int .i64 (n : Int)] := by
 unfold frontV frontP
 rw [h]
 rfl
theorem or_seven (k r b : Nat) (hr : r < 128 ^ k) (hb : b % 128 * 128 ^ k + 128 ^ k ≤ 18446744073709551616) :
  bits BinOp.or .u64 (r : Int) (IntKind.u64.wrap ((b : Int) % 128 * 2 ^ (7 * k))) = ((r + b % 128 * 128 ^ k : Nat) : Int) := by
 have e2 : (2 : Nat) ^ (7 * k) = 128 ^ k := by rw [Nat.pow_mul]
 have hpos : 0 < 128 ^ k := Nat.pow_pos (by decide)
 have e : IntKind.u64.wrap ((b : Int) % 128 * 2 ^ (7 * k)) = ((b % 128 * 128 ^ k : Nat) : Int) := by
  have e1 : (b : Int) % 128 * 2 ^ (7 * k) = ((b % 128 * 128 ^ k : Nat) : Int) := by rw [← e2]; simp
  rw [e1, IntKind.wrap_u64]
  omega
 rw [e, u64_or_nat r _ (by omega) (by omega)]
 have h := Nat.two_pow_add_eq_or_of_lt (i := 7 * k) (by rw [e2]; exact hr) (b % 128)
 rw [e2, Nat.mul_comm] at h
 rw [Nat.or_comm, ← h, Nat.add_comm]
theorem val_take (l : List Nat) (k : Nat) (h : k < l.length) : Cd.val (l.take (k + 1)) = Cd.val (l.take k) + l.getD k 0 % 128 * 128 ^ k := by
 rw [List.take_succ_eq_append_getElem h, Cd.val_snoc]
 simp [h, show min k l.length = k by omega]
theorem val_take_lt (l : List Nat) (k : Nat) : Cd.val (l.take k) < 128 ^ k :=
 Nat.lt_of_lt_of_le (Cd.val_lt _) (Nat.pow_le_pow_right (by omega) (by simp; omega))
set_option maxHeartbeats 1000000 in
theorem counted_any (w : World) (T : Nat → Prop) (A : Option Addr) (n c : Nat) (l : List Nat) (hr : RB w T A n l) (hn : n ≤ 140737488351232) :
  Calls Tryz.prog 134 #[.slice A n c] w fun e w' => e = .returned (frontV l) ∧ w = w' := by
 have HRB := Lib.hid hr
 clear hr
 go_enter Tryz.func134, Tryz.ntmps134
 go_wp2
 go_loop [4, 9] (fun y i => ∃ k r : Nat, k ≤ n ∧ k ≤ 9 ∧ (∀ j, j < k → 128 ≤ l.getD j 0) ∧ i = .int .i64 (k : Int) ∧ r = Cd.val (l.take k) ∧ y = .int .u64 (r : Int)) (fun _ i => n - (intOf i).toNat)
 case atStart => exact ⟨0, 0, by omega, by omega, by omega, rfl, by simp [Cd.val], rfl⟩
 case round =>
  obtain ⟨k, r, hk, hk9, hm, rfl, hr, rfl⟩ := hrel
  have HR := Lib.hid hr
  have HM := Lib.hid hm
  clear hr hm
  by_cases hlt : k < n
  ·obtain ⟨ad, rfl, hx, hc⟩ := HRB.out.at_ hlt
   obtain ⟨b, hb⟩ : ∃ b, b = l.getD k 0 := ⟨_, rfl⟩
   rw [← hb] at hx hc
   have HB := Lib.hid hb
   clear hb
   by_cases h9 : k = 9
   ·have hke : ((k : Int) == 9) = true := by simp; omega
    have hk10 : 9 ≤ k := by omega
    clear h9
    by_cases hb1 : 1 < b
    ·go_wp2
     go_ret2
     have hl := HRB.out.len
     refine ⟨congrArg _ (frontV_none (Cd.front_none ?_)), rfl⟩
     have e9 : k = 9 := by omega
     have hb := HB.out
     rw [e9] at hb
     have h9 := Cd.lead_ge l k (by omega) HM.out
     omega
    ·by_cases hb0 : b = 0
     ·have hbe : ((b : Int) == 0) = true := by simp; omega
      have hb00 : b ≤ 0 := by omega
      clear hb0
      go_wp2
      go_ret2
      have hl := HRB.out.len
      refine ⟨congrArg _ (frontV_none (Cd.front_none ?_)), rfl⟩
      have hb := HB.out
      have he := Cd.lead_eq l k (by omega) HM.out (by omega)
      rw [he]
      omega
     ·have hbe : ((b : Int) == 0) = false := by simp; omega
      have hb00 : 0 < b := by omega
      clear hb0
      go_wp2
      go_ret2
      have hl := HRB.out.len
      have hb := HB.out
      have he := Cd.lead_eq l k (by omega) HM.out (by omega)
      have e9 : k = 9 := by omega
      have hf : Cd.front l = some (Cd.val (l.take (k + 1)), k + 1) := by
       rw [Cd.front_some (by omega) (by omega) (by intro _; rw [← e9, ← hb]; omega) (by intro _; rw [he, ← hb]; omega), he]
      have hrl : r < 128 ^ k := by rw [HR.out]; exact val_take_lt l k
      have hb1' : b = 1 := by omega
      have e128 : 128 ^ k = 9223372036854775808 := by rw [e9]
      rw [frontV_some hf, val_take l k (by omega), ← hb, ← HR.out, ← or_seven k r b hrl (by rw [hb1', e128]; decide)]
      exact ⟨rfl, rfl⟩
   ·have hne : ((k : Int) == 9) = false := by simp; omega
    have hk8 : k < 9 := by omega
    clear h9
    have h128 : 128 ^ k ≤ 72057594037927936 := by
     have : 128 ^ k ≤ 128 ^ 8 := Nat.pow_le_pow_right (by omega) (by omega)
     exact this
    have HP := Lib.hid h128
    clear h128
    by_cases hb : 128 ≤ b
    ·go_wp2
     go_round
     case rel =>
      have hl := HRB.out.len
      have hrl : r < 128 ^ k := by rw [HR.out]; exact val_take_lt l k
      have hp := HP.out
      have hm : b % 128 * 128 ^ k ≤ 127 * 128 ^ k := Nat.mul_le_mul_right _ (by omega)
      refine ⟨k + 1, r + b % 128 * 128 ^ k, by omega, by omega, ?_, by go_num, ?_, ?_⟩
      ·intro j hj
       by_cases hjk : j = k
       ·rw [hjk, ← HB.out]; exact hb
       ·exact HM.out j (by omega)
      ·rw [val_take l k (by omega), HR.out, HB.out]
      ·rw [or_seven k r b hrl (by omega)]
     case measure => simp [intOf]; omega
    ·by_cases hb0 : b = 0
     ·have hbe : ((b : Int) == 0) = true := by simp; omega
      have hb00 : b ≤ 0 := by omega
      clear hb0
      by_cases h0 : 0 < k
      ·go_wp2
       go_ret2
       have hl := HRB.out.len
       refine ⟨congrArg _ (frontV_none (Cd.front_none ?_)), rfl⟩
       have hb := HB.out
       have he := Cd.lead_eq l k (by omega) HM.out (by omega)
       rw [he]
       omega
      ·go_wp2
       go_ret2
       have hl := HRB.out.len
       have hb' := HB.out
       have he := Cd.lead_eq l k (by omega) HM.out (by omega)
       have hf : Cd.front l = some (Cd.val (l.take (k + 1)), k + 1) := by
        rw [Cd.front_some (by omega) (by omega) (by omega) (by omega), he]
       have hrl : r < 128 ^ k := by rw [HR.out]; exact val_take_lt l k
       have hp := HP.out
       have hm : b % 128 * 128 ^ k ≤ 127 * 128 ^ k := Nat.mul_le_mul_right _ (by omega)
       rw [frontV_some hf, val_take l k (by omega), ← hb', ← HR.out, ← or_seven k r b hrl (by omega)]
       exact ⟨rfl, rfl⟩
     ·have hbne : ((b : Int) == 0) = false := by simp; omega
      have hb00 : 0 < b := by omega
      clear hb0
      go_wp2
      go_ret2
      have hl := HRB.out.len
      have hb' := HB.out
      have he := Cd.lead_eq l k (by omega) HM.out (by omega)
      have hf : Cd.front l = some (Cd.val (l.take (k + 1)), k + 1) := by
       rw [Cd.front_some (by omega) (by omega) (by omega) (by intro _; rw [he, ← hb']; omega), he]
      have hrl : r < 128 ^ k := by rw [HR.out]; exact val_take_lt l k
      have hp := HP.out
      have hm : b % 128 * 128 ^ k ≤ 127 * 128 ^ k := Nat.mul_le_mul_right _ (by omega)
      rw [frontV_some hf, val_take l k (by omega), ← hb', ← HR.out, ← or_seven k r b hrl (by omega)]
      exact ⟨rfl, rfl⟩
  ·obtain rfl : k = n := by omega
   go_wp2
   go_ret2
   have hl := HRB.out.len
   refine ⟨congrArg _ (frontV_none (Cd.front_none (Or.inl ?_))), rfl⟩
   exact Cd.lead_ge l _ (Nat.le_refl _) fun j hj => HM.out j (by omega)
theorem frontV_eq (l : List Nat) : ∃ x n : Nat, frontV l = .tuple #[.int .u64 (x : Int), .int .i64 (n : Int)] ∧ ((Cd.front l = none ∧ x = 0 ∧ n = 0) ∨ (Cd.front l = some (x, n) ∧ 0 < n ∧ n ≤ l.length ∧ x < 18446744073709551616)) := by
 cases h : Cd.front l with
 | none => exact ⟨0, 0, (frontV_none h).symm, Or.inl ⟨rfl, rfl, rfl⟩⟩
 | some q =>
   obtain ⟨x, n⟩ := q
   have := Cd.front_pos h
   exact ⟨x, n, frontV_some h, Or.inr ⟨rfl, by omega, by omega, Cd.front_lt h⟩⟩
theorem uint_any (w : World) (S : Nat → Prop) (p : Option Nat) (ok : Bool) (l : List Nat) (h : Rd w S p ok l) :
  Calls Tryz.prog 108 #[ptr p] w fun e w' => e = .returned (.int .u64 ((valO ok (Cd.front l) 0 : Nat) : Int)) ∧ Got w S p ok l (Cd.front l) w' := by
 have HR := Lib.hid (readable_any w S p ok l h)
 cases ok with
 | false =>
   have HD := Lib.hid h
   clear h
   go_enter Tryz.func108, Tryz.ntmps108
   go_wp2_with (go_at_call 127; refine HR.out.mono ?_; rintro e w' ⟨rfl, rfl⟩)
   go_ret
   exact ⟨rfl, HD.out, Fr.refl _ _⟩
 | true =>
   obtain ⟨g, rfl⟩ := rd_some h
   have hf := Rd.fault h
   have HD := Lib.hid hf
   obtain ⟨hS, A, m, c, hb, hr, hmc, hm⟩ := h
   have hln := hr.len
   have hc := hb.cell 1
   have hc0 := hb.cell 0
   have hc1 := hb.frozen 0
   have hc2 := hb.frozen 1
   have hcn := counted_any w _ A m c l hr hm
   obtain ⟨x, k, he, hk⟩ := frontV_eq l
   rw [he] at hcn
   have HC := Lib.hid hcn
   have HB := Lib.hid hb
   have HRB := Lib.hid hr
   clear he hcn hf hb hr
   simp only [ptr, Option.map] at HR ⊢
   rcases hk with ⟨hk, rfl, rfl⟩ | ⟨hk, hk0, hkl, hx⟩
   ·rw [hk]
    clear hk
    go_enter Tryz.func108, Tryz.ntmps108
    go_wp2_with (first | (go_at_call 127; refine HR.out.mono ?_; rintro e w' ⟨rfl, rfl⟩) | (go_at_call 134; refine HC.out.mono ?_; rintro e w' ⟨rfl, rfl⟩))
    go_ret
    exact ⟨rfl, HD.out⟩
   ·rw [hk]
    have hkm : k ≤ m := by omega
    have hkne : ((k : Int) == 0) = false := by simp; omega
    have HT := Lib.hid (Rd.took hS HB.out HRB.out hmc hm hkm)
    clear hk
    go_enter Tryz.func108, Tryz.ntmps108
    go_wp2_with (first | (go_at_call 127; refine HR.out.mono ?_; rintro e w' ⟨rfl, rfl⟩) | (go_at_call 134; refine HC.out.mono ?_; rintro e w' ⟨rfl, rfl⟩))
    all_goals
     go_ret
     have ht := HT.out
     first | rw [if_neg ‹_›] at ht | rw [if_pos ‹_›, show c - k = 0 by omega] at ht
     exact ⟨rfl, ht⟩
end Go.Proofs.YtdhgbkibbileiaaGreat
set_option maxRecDepth 100000
namespace Go.Proofs.YtdhgbkibbileiaaGreat
open Go.RowKit
theorem run_conv (T : Nat → Prop) (A : Option Addr) (n c : Nat) (l : List Nat) (w : World) (h : RB w T A n l) :
  (convert 24 9 (.slice A n c)).run Tryz.prog w = .ok (.string (strOf l)) w := by
 obtain ⟨hl, hx, h3⟩ := h
 rw [run_convert_bytes_string w 24 9 5 A n c Tryz.underlying24 Tryz.underlying5 Tryz.underlying9]
 rcases A with _ | ad
 ·have hn : n = 0 := by
   rcases Nat.eq_zero_or_pos n with h0 | h0
   ·exact h0
   ·obtain ⟨_, e, _⟩ := h3 h0
    cases e
  subst hn
  have : l = [] := List.eq_nil_of_length_eq_zero hl
  subst this
  simp [Conv.bytesToString, strOf]
  rfl
 ·have hload : (loadCells ad n).run Tryz.prog w = .ok ((l.map fun x : Nat => (x : Int)).map (Value.int .u8)).toArray w := by
   have := run_loadCells_list (P := Tryz.prog) w ad ((l.map fun x : Nat => (x : Int)).map (Value.int .u8)) (fun j v hj => by
    have hjl : j < l.length := by
     rcases Nat.lt_or_ge j l.length with h | h
     ·exact h
     ·simp [List.getElem?_eq_none h] at hj
    obtain ⟨ad', e, _, _, hc⟩ := h3 (by omega)
    cases e
    rw [hc j (by omega)]
    simp [List.getElem?_eq_getElem hjl] at hj
    subst hj
    simp [hjl])
   simpa [hl] using this
  rw [run_bytesToString w ad n c _ hload, foldl_push_bytes]
  simp [strOf, ByteArray.empty, ByteArray.emptyWithCapacity]
  rfl
theorem ru8_any (w : World) (S : Nat → Prop) (p : Option Nat) (ok : Bool) (l : List Nat) (h : Rd w S p ok l) :
  Calls Tryz.prog 52 #[ptr p] w fun e w' => e = .returned (.int .u8 ((valO ok (fixO l 1) 0 : Nat) : Int)) ∧ Got w S p ok l (fixO l 1) w' := by
 have HC := Lib.hid (readFix8_any w S p ok l h)
 clear h
 go_enter Tryz.func52, Tryz.ntmps52
 go_wp2_with (go_at_call 99; refine HC.out.mono ?_; rintro e w' ⟨rfl, hw⟩; have HW := Lib.hid hw; clear hw)
 go_ret
 exact ⟨rfl, HW.out⟩
theorem ru16_any (w : World) (S : Nat → Prop) (p : Option Nat) (ok : Bool) (l : List Nat) (h : Rd w S p ok l) :
  Calls Tryz.prog 33 #[ptr p] w fun e w' => e = .returned (.int .u16 ((valO ok (fixO l 2) 0 : Nat) : Int)) ∧ Got w S p ok l (fixO l 2) w' := by
 have HC := Lib.hid (readFix16_any w S p ok l h)
 clear h
 go_enter Tryz.func33, Tryz.ntmps33
 go_wp2_with (go_at_call 51; refine HC.out.mono ?_; rintro e w' ⟨rfl, hw⟩; have HW := Lib.hid hw; clear hw)
 go_ret
 exact ⟨rfl, HW.out⟩
def intO (l : List Nat) : Option (Int × Nat) := (Cd.front l).map fun x => (Cd.unzz x.1, x.2)
theorem intO_ok (ok : Bool) (l : List Nat) : okO ok (intO l) = okO ok (Cd.front l) := by
 unfold intO
 cases ok <;> cases Cd.front l <;> rfl
theorem intO_left (ok : Bool) (l : List Nat) : leftO ok l (intO l) = leftO ok l (Cd.front l) := by
 unfold intO
 cases ok <;> cases Cd.front l <;> rfl
theorem Got.int {w w' : World} {S : Nat → Prop} {p : Option Nat} {ok : Bool} {l : List Nat} (h : Got w S p ok l (Cd.front l) w') : Got w S p ok l (intO l) w' := by
 unfold Got at h ⊢
 rw [intO_ok, intO_left]
 exact h
def Raws (w : World) (S : Nat → Prop) (p : Option Nat) (ok : Bool) (l : List Nat) (n : Int) (e : Ending) (w' : World) : Prop :=
 ∃ v k, e = .returned v ∧ k = (valO ok (takeO l n) []).length ∧ Ow w' (fun b => w.heap.size ≤ b) v k (valO ok (takeO l n) []) ∧ Got w S p ok l (takeO l n) w'
theorem Rd.up {w : World} {S : Nat → Prop} {p : Option Nat} {ok : Bool} {l : List Nat} (h : Rd w S p ok l) : Rd w (fun b => S b ∧ b < w.heap.size) p ok l := Rd.mono h fun _ hb hs => ⟨hs, hb⟩
theorem rraw_any (w : World) (S : Nat → Prop) (p : Option Nat) (ok : Bool) (l : List Nat) (n : Int) (h1 : -9223372036854775808 ≤ n) (h2 : n ≤ 9223372036854775807) (h : Rd w S p ok l) :
  Calls Tryz.prog 136 #[ptr p, .int .i64 n] w (Raws w S p ok l n) := by
 have HT := Lib.hid (take_any w S p ok l n h1 h2 h)
 clear h
 go_enter Tryz.func136, Tryz.ntmps136
 go_wp2_with fail
 refine HT.out.mono ?_
 rintro e w1 ⟨A, m, c, rfl, hr, hm, hd, hf⟩
 have hsz := hf.size
 have HC := Lib.hid (clone_any w1 _ A m c _ hr hm)
 have HD := Lib.hid (Rd.up hd)
 have HF := Lib.hid hf
 clear hr hd hf
 go_wp2_with fail
 refine HC.out.mono ?_
 rintro e w2 ⟨v, rfl, ho, hb⟩
 have HO := Lib.hid ho
 have HB := Lib.hid hb
 clear ho hb
 go_wp2
 go_ret
 have hfb := Fr.of_below HB.out (fun b => w1.heap.size ≤ b)
 refine ⟨v, _, rfl, rfl, HO.out.mono fun b _ hb => by omega, (Rd.keep HD.out hfb fun b hb => by omega).mono fun b _ hb => hb.1, HF.out.trans hfb fun b hb => Or.inr (by omega)⟩
end Go.Proofs.YtdhgbkibbileiaaGreat
set_option maxRecDepth 100000
namespace Go.Proofs.YtdhgbkibbileiaaGreat
open Go.RowKit
theorem text_no {l : List Nat} {most : Int} {x k : Nat} (h : Cd.front l = some (x, k)) (hc : most < 0 ∨ most < x ∨ l.length - k < x) : Cd.text l most = none := by
 unfold Cd.text
 rw [h]
 exact if_pos hc
theorem text_yes {l : List Nat} {most : Int} {x k : Nat} (h : Cd.front l = some (x, k)) (hc : ¬ (most < 0 ∨ most < x ∨ l.length - k < x)) : Cd.text l most = some ((l.drop k).take x, k + x) := by
 unfold Cd.text
 rw [h]
 exact if_neg hc
theorem text_none {l : List Nat} {most : Int} (h : Cd.front l = none) : Cd.text l most = none := by
 unfold Cd.text
 rw [h]
def strV (ok : Bool) (l : List Nat) (most : Int) : Value := .string (strOf (valO ok (Cd.text l most) []))
theorem Rd.at_ {w : World} {S : Nat → Prop} {g : Nat} {ok : Bool} {l' : List Nat} {A B : Option Addr} {n c n' c' : Nat} (hS : S g) (hb : Blk w g 100 #[.bool ok, .slice A n c]) (hr : RB w (fun b => S b ∧ b ≠ g) B n' l') (hc : n' ≤ c') (hn : n' ≤ 140737488351232) :
  Rd (w.setCell ⟨g, 1, none⟩ (.slice B n' c')) S (some g) ok l' ∧ Fr w (w.setCell ⟨g, 1, none⟩ (.slice B n' c')) S :=
 ⟨⟨hS, _, _, _, by simpa using hb.set_ 1 (.slice B n' c'), hr.far (fun hh => hh.2 rfl) _, hc, hn⟩, (Fr.refl _ _).setCell (Or.inl hS) _⟩
set_option maxHeartbeats 1000000 in
theorem text_full (w : World) (S : Nat → Prop) (g : Nat) (l : List Nat) (most : Int) (h1 : 0 ≤ most) (h2 : most ≤ 9223372036854775807) (ad : Addr) (k : Nat) (hk0 : 0 < k) (hk10 : k ≤ 10) (hS : S g)
  (hb : Blk w g 100 #[.bool true, .slice (some ad) k k]) (hr : RB w (fun b => S b ∧ b ≠ g) (some ad) k l) (hf : Cd.front l = some (0, k)) :
  Calls Tryz.prog 110 #[ptr (some g), .int .i64 most] w fun e w' => e = .returned (strV true l most) ∧ Got w S (some g) true l (Cd.text l most) w' := by
 have hln := hr.len
 have HR := Lib.hid (readable_any w S (some g) true l ⟨hS, _, _, _, hb, hr, Nat.le_refl _, by omega⟩)
 have hcn := counted_any w _ (some ad) k k l hr (by omega)
 rw [frontV_some hf] at hcn
 have hcn' : Calls Tryz.prog 134 #[.slice (some ad) k k] w fun e w' => e = .returned (.tuple #[.int .u64 0, .int .i64 (k : Int)]) ∧ w = w' := hcn
 have HC := Lib.hid hcn'
 have HT := Lib.hid (Rd.took (k := k) hS hb hr (Nat.le_refl _) (by omega) (Nat.le_refl _))
 have HY := Lib.hid (text_yes (most := most) hf (by omega))
 have hc := hb.cell 1
 have hc0 := hb.cell 0
 have hc1 := hb.frozen 0
 have hc2 := hb.frozen 1
 have hkne : ((k : Int) == 0) = false := by simp; omega
 have hcv := fun (X : Value) (C : Nat) => run_conv (fun _ => True) (some ad) 0 C [] (w.setCell ⟨g, 1, none⟩ X) ⟨rfl, by simp, fun h => absurd h (by omega)⟩
 clear hb hr hf hcn hcn' hln
 simp only [ptr, Option.map] at HR ⊢
 go_enter Tryz.func110, Tryz.ntmps110
 go_wp2_with (first | (go_at_call 127; refine HR.out.mono ?_; rintro e w' ⟨rfl, rfl⟩) | (go_at_call 134; refine HC.out.mono ?_; rintro e w' ⟨rfl, rfl⟩))
 go_ret
 unfold strV
 rw [HY.out]
 have ht := HT.out
 rw [if_pos trivial, Nat.sub_self] at ht
 exact ⟨rfl, ht⟩
set_option maxHeartbeats 1000000 in
theorem text_part (w : World) (S : Nat → Prop) (g : Nat) (l : List Nat) (most : Int) (h1 : 0 ≤ most) (h2 : most ≤ 9223372036854775807) (ad : Addr) (m c x k : Nat) (hk0 : 0 < k) (hS : S g) (hmc : m ≤ c) (hm : m ≤ 140737488351232)
  (hb : Blk w g 100 #[.bool true, .slice (some ad) m c]) (hr : RB w (fun b => S b ∧ b ≠ g) (some ad) m l) (hf : Cd.front l = some (x, k)) (hx : x < 18446744073709551616) (hkm : k ≤ m) (hck : ¬ c = k) (hxm : x ≤ m - k) (hxo : x ≤ most) :
  Calls Tryz.prog 110 #[ptr (some g), .int .i64 most] w fun e w' => e = .returned (strV true l most) ∧ Got w S (some g) true l (Cd.text l most) w' := by
 have hln := hr.len
 have HR := Lib.hid (readable_any w S (some g) true l ⟨hS, _, _, _, hb, hr, hmc, hm⟩)
 have hcn := counted_any w _ (some ad) m c l hr hm
 rw [frontV_some hf] at hcn
 have HC := Lib.hid hcn
 have HY := Lib.hid (text_yes (most := most) hf (by omega))
 have HB := Lib.hid hb
 have hc := hb.cell 1
 have hc0 := hb.cell 0
 have hc1 := hb.frozen 0
 have hc2 := hb.frozen 1
 have hkne : ((k : Int) == 0) = false := by simp; omega
 have hbeh := hr.drop hkm hmc
 rw [if_neg hck] at hbeh
 have hbeh' : RB w (fun b => S b ∧ b ≠ g) (some (ad.add k)) (m - k) (l.drop k) := hbeh
 have hcv := fun (X : Value) (C : Nat) => run_conv _ _ x C _ (w.setCell ⟨g, 1, none⟩ X) ((hbeh'.take hxm).far (fun hh => hh.2 rfl) X)
 have HX := Lib.hid hbeh'
 have HK := Lib.hid hck
 have hck2 : k < c := by omega
 clear hb hr hf hcn hln hbeh hbeh' hck
 simp only [ptr, Option.map] at HR ⊢
 go_enter Tryz.func110, Tryz.ntmps110
 go_wp2_with (first | (go_at_call 127; refine HR.out.mono ?_; rintro e w' ⟨rfl, rfl⟩) | (go_at_call 134; refine HC.out.mono ?_; rintro e w' ⟨rfl, rfl⟩))
 all_goals
  go_ret
  unfold strV
  rw [HY.out]
  have hd := HX.out.drop hxm (show m - k ≤ c - k by omega)
  rw [List.drop_drop] at hd
  refine ⟨rfl, ?_⟩
  by_cases hcx : c - k = x
  ·rw [if_pos hcx] at hd
   first
   | exact Rd.at_ hS HB.out hd (by omega) (by omega)
   | (exfalso; revert hcx; assumption)
  ·rw [if_neg hcx] at hd
   first
   | exact Rd.at_ hS HB.out hd (by omega) (by omega)
   | (exfalso; apply hcx; assumption)
set_option maxHeartbeats 1000000 in
theorem text_any (w : World) (S : Nat → Prop) (p : Option Nat) (ok : Bool) (l : List Nat) (most : Int) (h1 : -9223372036854775808 ≤ most) (h2 : most ≤ 9223372036854775807) (h : Rd w S p ok l) :
  Calls Tryz.prog 110 #[ptr p, .int .i64 most] w fun e w' => e = .returned (strV ok l most) ∧ Got w S p ok l (Cd.text l most) w' := by
 have HR := Lib.hid (readable_any w S p ok l h)
 cases ok with
 | false =>
   have HD := Lib.hid h
   clear h
   go_enter Tryz.func110, Tryz.ntmps110
   go_wp2_with (go_at_call 127; refine HR.out.mono ?_; rintro e w' ⟨rfl, rfl⟩)
   go_ret
   exact ⟨rfl, HD.out, Fr.refl _ _⟩
 | true =>
   obtain ⟨g, rfl⟩ := rd_some h
   have hf := Rd.fault h
   have HD := Lib.hid hf
   obtain ⟨hS, A, m, c, hb, hr, hmc, hm⟩ := h
   have hln := hr.len
   cases hfr : Cd.front l with
   | none =>
     have hc := hb.cell 1
     have hc0 := hb.cell 0
     have hc1 := hb.frozen 0
     have hcn := counted_any w _ A m c l hr hm
     rw [← frontV_none hfr] at hcn
     have HC := Lib.hid hcn
     have HN := Lib.hid (text_none (most := most) hfr)
     clear hcn hf hb hr hfr
     simp only [ptr, Option.map] at HR ⊢
     go_enter Tryz.func110, Tryz.ntmps110
     go_wp2_with (first | (go_at_call 127; refine HR.out.mono ?_; rintro e w' ⟨rfl, rfl⟩) | (go_at_call 134; refine HC.out.mono ?_; rintro e w' ⟨rfl, rfl⟩))
     all_goals
      go_ret
      unfold strV
      rw [HN.out]
      exact ⟨rfl, HD.out⟩
   | some q =>
     obtain ⟨x, k⟩ := q
     obtain ⟨hk0, hkl, hk10⟩ := Cd.front_pos hfr
     have hx := Cd.front_lt hfr
     have hkm : k ≤ m := by omega
     obtain ⟨ad, rfl, _, _⟩ := hr.at_ (k := 0) (by omega)
     by_cases hbad : most < 0 ∨ most < x ∨ l.length - k < x
     ·have HN := Lib.hid (text_no hfr hbad)
      have hc := hb.cell 1
      have hc0 := hb.cell 0
      have hc1 := hb.frozen 0
      have hcn := counted_any w _ (some ad) m c l hr hm
      rw [frontV_some hfr] at hcn
      have HC := Lib.hid hcn
      have hkne : ((k : Int) == 0) = false := by simp; omega
      clear hcn hf hb hr hfr
      simp only [ptr, Option.map] at HR ⊢
      by_cases hm0 : most < 0
      ·clear hbad
       go_enter Tryz.func110, Tryz.ntmps110
       go_wp2_with (first | (go_at_call 127; refine HR.out.mono ?_; rintro e w' ⟨rfl, rfl⟩) | (go_at_call 134; refine HC.out.mono ?_; rintro e w' ⟨rfl, rfl⟩))
       all_goals
        go_ret
        unfold strV
        rw [HN.out]
        exact ⟨rfl, HD.out⟩
      ·by_cases hmx : most < x
       ·clear hbad
        go_enter Tryz.func110, Tryz.ntmps110
        go_wp2_with (first | (go_at_call 127; refine HR.out.mono ?_; rintro e w' ⟨rfl, rfl⟩) | (go_at_call 134; refine HC.out.mono ?_; rintro e w' ⟨rfl, rfl⟩))
        all_goals
         go_ret
         unfold strV
         rw [HN.out]
         exact ⟨rfl, HD.out⟩
       ·have hmk : m - k < x := by omega
        clear hbad
        go_enter Tryz.func110, Tryz.ntmps110
        go_wp2_with (first | (go_at_call 127; refine HR.out.mono ?_; rintro e w' ⟨rfl, rfl⟩) | (go_at_call 134; refine HC.out.mono ?_; rintro e w' ⟨rfl, rfl⟩))
        all_goals
         go_ret
         unfold strV
         rw [HN.out]
         exact ⟨rfl, HD.out⟩
     ·have hb1 : ¬ most < 0 := fun h => hbad (Or.inl h)
      have hb2 : ¬ most < x := fun h => hbad (Or.inr (Or.inl h))
      have hb3 : ¬ l.length - k < x := fun h => hbad (Or.inr (Or.inr h))
      clear HR HD hf
      by_cases hck : c = k
      ·subst hck
       obtain rfl : m = c := by omega
       obtain rfl : x = 0 := by omega
       exact text_full w S g l most (by omega) h2 ad m hk0 hk10 hS hb hr hfr
      ·exact text_part w S g l most (by omega) h2 ad m c x k hk0 hS hmc hm hb hr hfr hx hkm hck (by omega) (by omega)
end Go.Proofs.YtdhgbkibbileiaaGreat
set_option maxRecDepth 100000
namespace Go.Proofs.YtdhgbkibbileiaaGreat
open Go.RowKit
theorem val_drop (L : List Nat) (j : Nat) (h : j < L.length) : Cd.val (L.drop j) = L.getD j 0 % 128 + 128 * Cd.val (L.drop (j + 1)) := by
 rw [List.drop_eq_getElem_cons h, Cd.val]
 simp [h]
theorem val_drop_le (L : List Nat) (j : Nat) : Cd.val (L.drop j) ≤ Cd.val L := by
 induction L generalizing j with
 | nil => simp [Cd.val]
 | cons b r ih =>
   match j with
   | 0 => exact Nat.le_refl _
   | j + 1 =>
     have := ih j
     simp only [List.drop_succ_cons, Cd.val]
     omega
set_option maxHeartbeats 1000000 in
theorem front_any (w : World) (T : Nat → Prop) (A : Option Addr) (n c : Nat) (l : List Nat) (hr : RB w T A n l) (hn : n ≤ 140737488351232) :
  Calls Tryz.prog 100 #[.slice A n c] w fun e w' => e = .returned (frontV l) ∧ w = w' := by
 have hll := Cd.lead_le l
 have hln := hr.len
 obtain ⟨q, hq⟩ : ∃ q, q = Cd.lead l := ⟨_, rfl⟩
 rw [← hq] at hll
 have hqn : q ≤ n := by omega
 have HQ := Lib.hid hq
 have HRB := Lib.hid hr
 clear hr hq hll hln
 go_enter Tryz.func100, Tryz.ntmps100
 go_wp2
 go_loop [4] (fun i => ∃ k : Nat, k ≤ q ∧ i = .int .i64 (k : Int)) (fun i => q - (intOf i).toNat)
 case atStart => exact ⟨0, by omega, rfl⟩
 case round =>
  obtain ⟨k, hk, rfl⟩ := hrel
  by_cases hlt : k < q
  ·obtain ⟨ad, rfl, hx, hc⟩ := HRB.out.at_ (show k < n by omega)
   obtain ⟨b, hb⟩ : ∃ b, b = l.getD k 0 := ⟨_, rfl⟩
   have hb2 : 128 ≤ b := by rw [hb]; exact Cd.lead_at l k (by rw [← HQ.out]; exact hlt)
   rw [← hb] at hx hc
   clear hb
   have hkn : k < n := by omega
   go_wp2
   go_round
   case rel => exact ⟨k + 1, by omega, by go_num⟩
   case measure => simp [intOf]; omega
  ·have hkq : q ≤ k := by omega
   by_cases hkn : k < n
   ·obtain ⟨ad, rfl, hx, hc⟩ := HRB.out.at_ hkn
    obtain ⟨b, hb⟩ : ∃ b, b = l.getD k 0 := ⟨_, rfl⟩
    have hb2 : b < 128 := by
     rw [hb]
     have hln := HRB.out.len
     have e : k = Cd.lead l := by rw [← HQ.out]; omega
     rw [e]
     exact Cd.lead_end l (by rw [← HQ.out]; omega)
    rw [← hb] at hx hc
    have HB := Lib.hid hb
    clear hb
    by_cases hbad : 9 < k ∨ (k = 9 ∧ 1 < b) ∨ (0 < k ∧ b = 0)
    ·have hnone : Cd.front l = none := by
      have hb := HB.out
      have e : k = Cd.lead l := by rw [← HQ.out]; omega
      refine Cd.front_none ?_
      rcases hbad with h | ⟨h, h'⟩ | ⟨h, h'⟩
      ·omega
      ·exact Or.inr (Or.inr (Or.inl ⟨by omega, by rw [← h, ← hb]; exact h'⟩))
      ·exact Or.inr (Or.inr (Or.inr ⟨by omega, by rw [← e, ← hb]; exact h'⟩))
     have HN := Lib.hid (frontV_none hnone)
     clear hnone
     by_cases h9 : 9 < k
     ·clear hbad
      go_wp2
      go_ret2
      exact ⟨congrArg _ HN.out, rfl⟩
     ·by_cases h99 : 9 ≤ k
      ·have hke : ((k : Int) == 9) = true := by simp; omega
       by_cases hb1 : 1 < b
       ·clear hbad
        go_wp2
        go_ret2
        exact ⟨congrArg _ HN.out, rfl⟩
       ·have hbe : ((b : Int) == 0) = true := by simp; omega
        have hk0 : 0 < k := by omega
        clear hbad
        go_wp2
        go_ret2
        exact ⟨congrArg _ HN.out, rfl⟩
      ·have hke : ((k : Int) == 9) = false := by simp; omega
       have hbe : ((b : Int) == 0) = true := by simp; omega
       have hk0 : 0 < k := by omega
       clear hbad
       go_wp2
       go_ret2
       exact ⟨congrArg _ HN.out, rfl⟩
    ·have hk9 : k ≤ 9 := by omega
     have hb9 : k = 9 → b ≤ 1 := by omega
     have hb0 : 0 < k → 0 < b := by omega
     have hf : Cd.front l = some (Cd.val (l.take (k + 1)), k + 1) := by
      have hb := HB.out
      have hln := HRB.out.len
      have e : k = Cd.lead l := by rw [← HQ.out]; omega
      rw [Cd.front_some (by omega) (by omega) (by intro h; rw [← h, ← e, ← hb]; exact hb9 (by omega)) (by intro h; rw [← e, ← hb]; have := hb0 (by omega); omega), ← e]
     have HF := Lib.hid hf
     have HLT := Lib.hid (Cd.front_lt hf)
     clear hbad hf
     have hways : (((k : Int) == 9) = true ∧ b ≤ 1 ∧ 0 < k ∧ ((b : Int) == 0) = false) ∨ (((k : Int) == 9) = false ∧ 0 < k ∧ ((b : Int) == 0) = false) ∨ (((k : Int) == 9) = false ∧ k ≤ 0) := by
      rcases Nat.lt_or_ge k 1 with h1 | h1
      ·exact Or.inr (Or.inr ⟨by simp; omega, by omega⟩)
      ·have := hb0 (by omega)
       rcases Nat.lt_or_ge k 9 with h2 | h2
       ·exact Or.inr (Or.inl ⟨by simp; omega, by omega, by simp; omega⟩)
       ·exact Or.inl ⟨by simp; omega, hb9 (by omega), by omega, by simp; omega⟩
     clear hb9 hb0
     rcases hways with ⟨hke, hb1, hk0, hbe⟩ | ⟨hke, hk0, hbe⟩ | ⟨hke, hk0⟩
     all_goals
      go_wp2
      go_loop [5, 6] (fun y i0 => ∃ (i : Int) (r : Nat), -1 ≤ i ∧ i ≤ k ∧ i0 = .int .i64 i ∧ r = Cd.val ((l.take (k + 1)).drop (i + 1).toNat) ∧ y = .int .u64 (r : Int)) (fun _ i => (intOf i + 1).toNat)
      case atStart =>
       refine ⟨k, 0, by omega, by omega, rfl, ?_, rfl⟩
       rw [List.drop_of_length_le (by simp; omega)]
       rfl
      case round =>
       obtain ⟨i, r, hi1, hi2, rfl, hr, rfl⟩ := hrel
       by_cases hi : 0 ≤ i
       ·obtain ⟨j, rfl⟩ := Int.eq_ofNat_of_zero_le hi
        have hjk : j ≤ k := by omega
        obtain ⟨_, e, hx2, hc2⟩ := HRB.out.at_ (show j < n by omega)
        cases e
        obtain ⟨z, hz⟩ : ∃ z, z = l.getD j 0 := ⟨_, rfl⟩
        rw [← hz] at hx2 hc2
        have hv := val_drop (l.take (k + 1)) j (by have := HRB.out.len; simp; omega)
        rw [Cd.getD_take _ _ _ (by omega), ← hz] at hv
        have hle := val_drop_le (l.take (k + 1)) j
        have hlt2 := HLT.out
        have hjn : ((j : Int) + 1).toNat = j + 1 := by omega
        rw [hjn] at hr
        rw [← hr] at hv
        have hbd : z % 128 + 128 * r < 18446744073709551616 := by omega
        have HV := Lib.hid hv
        clear hz hv hle hlt2 hjn hr
        go_wp2
        go_round
        case rel =>
         refine ⟨(j : Int) - 1, z % 128 + 128 * r, by omega, by omega, by first | rfl | go_num, ?_, ?_⟩
         ·rw [show ((j : Int) - 1 + 1).toNat = j by omega, HV.out]
         ·exact congrArg _ (by omega)
        case measure => simp [intOf]
       ·obtain rfl : i = -1 := by omega
        have HR := Lib.hid hr
        clear hr
        go_wp2
        go_ret2
        rw [frontV_some HF.out]
        have hr := HR.out
        simp only [Int.reduceNeg, Int.reduceAdd, Int.toNat_zero, List.drop_zero] at hr
        rw [hr]
        exact ⟨rfl, rfl⟩
   ·obtain rfl : k = n := by omega
    have hnone : Cd.front l = none := by
     have hln := HRB.out.len
     exact Cd.front_none (Or.inl (by rw [← HQ.out]; omega))
    have HN := Lib.hid (frontV_none hnone)
    clear hnone
    go_wp2
    go_ret2
    exact ⟨congrArg _ HN.out, rfl⟩
end Go.Proofs.YtdhgbkibbileiaaGreat
set_option maxRecDepth 100000
namespace Go.Proofs.YtdhgbkibbileiaaGreat
open Go.RowKit
def Gq {α : Type} (w : World) (S : Nat → Prop) (g : Nat) (ok : Bool) (l : List Nat) (o : Option (α × Nat)) (w' : World) : Prop :=
 Qd w' S g (okO ok o) (leftO ok l o) ∧ Fr w w' S
def qp (g : Nat) : Value := .pointer (some ⟨g, 0, none⟩)
theorem Qd.fault {w : World} {S : Nat → Prop} {g : Nat} {ok : Bool} {l : List Nat} (h : Qd w S g ok l) :
  Qd (w.setCell ⟨g, 1, none⟩ (.bool true)) S g false l ∧ Fr w (w.setCell ⟨g, 1, none⟩ (.bool true)) S := by
 obtain ⟨hS, A, n, c, hb, hr, h4⟩ := h
 refine ⟨⟨hS, A, n, c, by simpa using hb.set_ 1 (.bool true), hr.far (fun hh => hh.2 rfl) _, h4⟩, (Fr.refl _ _).setCell (Or.inl hS) _⟩
theorem Qd.at_ {w : World} {S : Nat → Prop} {g : Nat} {ok : Bool} {l' : List Nat} {A B : Option Addr} {n c n' c' : Nat} (hS : S g) (hb : Blk w g 75 #[.slice A n c, .bool (!ok)]) (hr : RB w (fun b => S b ∧ b ≠ g) B n' l') (hc : n' ≤ c') (hn : n' ≤ 140737488351232) :
  Qd (w.setCell ⟨g, 0, none⟩ (.slice B n' c')) S g ok l' ∧ Fr w (w.setCell ⟨g, 0, none⟩ (.slice B n' c')) S :=
 ⟨⟨hS, _, _, _, by simpa using hb.set_ 0 (.slice B n' c'), hr.far (fun hh => hh.2 rfl) _, hc, hn⟩, (Fr.refl _ _).setCell (Or.inl hS) _⟩
theorem unfix_drop (L : List Nat) (j : Nat) (h : j < L.length) : Cd.unfix (L.drop j) = L.getD j 0 + 256 * Cd.unfix (L.drop (j + 1)) := by
 rw [List.drop_eq_getElem_cons h, Cd.unfix]
 simp [h]
theorem unfix_drop_le (L : List Nat) (j : Nat) : Cd.unfix (L.drop j) ≤ Cd.unfix L := by
 induction L generalizing j with
 | nil => simp [Cd.unfix]
 | cons b r ih =>
   match j with
   | 0 => exact Nat.le_refl _
   | j + 1 =>
     have := ih j
     simp only [List.drop_succ_cons, Cd.unfix]
     omega
theorem Gq.fix {w w' : World} {S : Nat → Prop} {g : Nat} {ok : Bool} {l : List Nat} {k : Nat} (h : Gq w S g ok l (takeO l k) w') : Gq w S g ok l (fixO l k) w' := by
 unfold Gq at h ⊢
 rw [fixO_ok, fixO_left]
 exact h
end Go.Proofs.YtdhgbkibbileiaaGreat
