/-
  THE WALKS OF THE READER (stage 2's).
-/
import Derived.Test.YtiilhnedflmgoaaWalkC
import Derived.Deep.Slices
import Derived.BigQuiet
import Derived.Deep.RegionHeld3
import Derived.Deep.RegionWith
import Derived.Deep.DrawnRows
import Derived.Lib.ConvBytes
namespace Go.Proofs.Ytiilhnedflmgoaa
open Go.RowKit

def okO {α : Type} (ok : Bool) (o : Option (α × Nat)) : Bool := ok && o.isSome
def leftO {α : Type} (ok : Bool) (l : List Nat) (o : Option (α × Nat)) : List Nat :=
  match ok, o with
  | true, some (_, n) => l.drop n
  | _, _ => l
def valO {α : Type} (ok : Bool) (o : Option (α × Nat)) (z : α) : α :=
  match ok, o with
  | true, some (x, _) => x
  | _, _ => z
def takeO (l : List Nat) (n : Int) : Option (List Nat × Nat) := if 0 ≤ n ∧ n ≤ l.length then some (l.take n.toNat, n.toNat) else none
def errOf (ok : Bool) : Int := if ok then 0 else 5

set_option maxRecDepth 100000 in
theorem readable_any (w : World) (S : Nat → Prop) (p : Option Nat) (ok : Bool) (l : List Nat) (h : Rd w S p ok l) :
    Calls Try.prog 63 #[ptr p] w fun e w' => e = .returned (.bool ok) ∧ w = w' := by
  cases p with
  | none =>
    obtain ⟨rfl, _⟩ := h
    simp only [ptr, Option.map]
    go_enter Try.func63, Try.ntmps63
    go_wp2
    go_ret
    exact ⟨rfl, rfl⟩
  | some g =>
    obtain ⟨_, A, n, c, hb, _⟩ := h
    have hc := hb.cell 0
    simp only [ptr, Option.map]
    clear hb
    go_enter Try.func63, Try.ntmps63
    go_wp2
    go_ret
    exact ⟨rfl, rfl⟩

set_option maxRecDepth 100000 in
theorem err_any (w : World) (S : Nat → Prop) (p : Option Nat) (ok : Bool) (l : List Nat) (h : Rd w S p ok l) :
    Calls Try.prog 60 #[ptr p] w fun e w' => e = .returned (.int .i64 (errOf ok)) ∧ w = w' := by
  have HC := Lib.hid (readable_any w S p ok l h)
  clear h
  cases ok with
  | true =>
    simp only [errOf, if_true]
    go_enter Try.func60, Try.ntmps60
    go_wp2_with (go_at_call 63; refine HC.out.mono ?_; rintro e w' ⟨rfl, rfl⟩)
    go_ret
    exact ⟨rfl, rfl⟩
  | false =>
    simp only [errOf, Bool.false_eq_true, if_false]
    go_enter Try.func60, Try.ntmps60
    go_wp2_with (go_at_call 63; refine HC.out.mono ?_; rintro e w' ⟨rfl, rfl⟩)
    go_ret
    exact ⟨rfl, rfl⟩

set_option maxRecDepth 100000 in
/-- the fault is set -/
theorem Rd.fault {w : World} {S : Nat → Prop} {g : Nat} {ok : Bool} {l : List Nat} (h : Rd w S (some g) ok l) :
    Rd (w.setCell ⟨g, 0, none⟩ (.bool false)) S (some g) false l ∧ Fr w (w.setCell ⟨g, 0, none⟩ (.bool false)) S := by
  obtain ⟨hS, A, n, c, hb, hr, h4⟩ := h
  refine ⟨⟨hS, A, n, c, by simpa using hb.set_ 0 (.bool false), hr.far (fun hh => hh.2 rfl) _, h4⟩, (Fr.refl _ _).setCell (Or.inl hS) _⟩
set_option maxRecDepth 100000 in
/-- k bytes are taken -/
theorem Rd.took {w : World} {S : Nat → Prop} {g : Nat} {ok : Bool} {l : List Nat} {A : Option Addr} {n c k : Nat} (hS : S g) (hb : Blk w g 86 #[.bool ok, .slice A n c]) (hr : RB w (fun b => S b ∧ b ≠ g) A n l) (hc : n ≤ c) (hn : n ≤ 140737488351232) (hk : k ≤ n) :
    Rd (w.setCell ⟨g, 1, none⟩ (.slice (if c = k then A else A.map (·.add k)) (n - k) (c - k))) S (some g) ok (l.drop k) ∧ Fr w (w.setCell ⟨g, 1, none⟩ (.slice (if c = k then A else A.map (·.add k)) (n - k) (c - k))) S :=
  ⟨⟨hS, _, _, _, by simpa using hb.set_ 1 (.slice (if c = k then A else A.map (·.add k)) (n - k) (c - k)), (hr.drop hk hc).far (fun hh => hh.2 rfl) _, by omega, by omega⟩, (Fr.refl _ _).setCell (Or.inl hS) _⟩
set_option maxRecDepth 100000 in
theorem rd_some {w : World} {S : Nat → Prop} {p : Option Nat} {l : List Nat} (h : Rd w S p true l) : ∃ g, p = some g := by
  cases p with
  | none => exact absurd h.1 (by simp)
  | some g => exact ⟨g, rfl⟩

set_option maxRecDepth 100000 in
theorem newReader_any (w : World) (T : Nat → Prop) (A : Option Addr) (n c : Nat) (l : List Nat) (hr : RB w T A n l) (hn : n ≤ 140737488351232) :
    Calls Try.prog 35 #[.slice A n c] w fun e w' => ∃ g, e = .returned (ptr (some g)) ∧ Rd w' (fun b => w.heap.size ≤ b) (some g) true l ∧ Below w.heap.size w w' := by
  have HC := Lib.hid (clone_any w T A n c l hr hn)
  have hln := hr.len
  have hn2 : l.length ≤ 140737488351232 := by omega
  clear hr hln
  go_enter Try.func35, Try.ntmps35
  go_wp2_with fail
  refine HC.out.mono ?_
  rintro e w1 ⟨v, rfl, ho, hb⟩
  obtain ⟨A1, c1, rfl, h1, _, h3⟩ := ho.reads
  have HR := Lib.hid h3
  have HB := Lib.hid hb
  have hsz := hb.size
  clear ho hb h3
  go_wp2
  go_ret
  refine ⟨w1.heap.size, rfl, ⟨hsz, A1, l.length, c1, Blk.new w1 86 _, ?_, h1, hn2⟩, HB.out.alloc hsz _⟩
  exact (HR.out.mono (T := fun b => w.heap.size ≤ b ∧ b ≠ w1.heap.size) fun b hb hS => ⟨hS, by omega⟩).alloc _

set_option maxRecDepth 100000 in
theorem end_any (w : World) (S : Nat → Prop) (p : Option Nat) (ok : Bool) (l : List Nat) (h : Rd w S p ok l) :
    Calls Try.prog 37 #[ptr p] w fun e w' => e = .returned (.int .i64 (errOf (ok && l.isEmpty))) ∧ Rd w' S p (ok && l.isEmpty) l ∧ Fr w w' S := by
  have HR := Lib.hid (readable_any w S p ok l h)
  cases ok with
  | false =>
    have HE := Lib.hid (err_any w S p false l h)
    have HD := Lib.hid h
    clear h
    simp only [Bool.false_and]
    go_enter Try.func37, Try.ntmps37
    go_wp2_with (first | (go_at_call 63; refine HR.out.mono ?_; rintro e w' ⟨rfl, rfl⟩) | (go_at_call 60; refine HE.out.mono ?_; rintro e w' ⟨rfl, rfl⟩))
    go_ret
    exact ⟨rfl, HD.out, Fr.refl _ _⟩
  | true =>
    obtain ⟨g, rfl⟩ := rd_some h
    cases l with
    | nil =>
      have HE := Lib.hid (err_any w S (some g) true [] h)
      have HD := Lib.hid h
      obtain ⟨_, A, n, c, hb, hr, _⟩ := h
      have hn := hr.len
      simp only [List.length_nil] at hn
      subst hn
      have hc := hb.cell 1
      clear hb hr
      simp only [ptr, Option.map] at HR HE ⊢
      go_enter Try.func37, Try.ntmps37
      go_wp2_with (first | (go_at_call 63; refine HR.out.mono ?_; rintro e w' ⟨rfl, rfl⟩) | (go_at_call 60; refine HE.out.mono ?_; rintro e w' ⟨rfl, rfl⟩))
      go_ret
      exact ⟨rfl, HD.out, Fr.refl _ _⟩
    | cons b r =>
      have hf := Rd.fault h
      have HE := Lib.hid (err_any _ S (some g) false (b :: r) hf.1)
      have HD := Lib.hid hf
      obtain ⟨_, A, n, c, hb, hr, _⟩ := h
      have hn := hr.len
      have hpos : 0 < n := by simp only [List.length_cons] at hn; omega
      have hc := hb.cell 1
      have hc0 := hb.cell 0
      have hc1 := hb.frozen 0
      clear hb hr hf hn
      simp only [ptr, Option.map] at HR HE ⊢
      go_enter Try.func37, Try.ntmps37
      go_wp2_with (first | (go_at_call 63; refine HR.out.mono ?_; rintro e w' ⟨rfl, rfl⟩) | (go_at_call 60; refine HE.out.mono ?_; rintro e w' ⟨rfl, rfl⟩))
      go_ret
      exact ⟨rfl, HD.out⟩
set_option maxRecDepth 100000 in
theorem takeO_no {l : List Nat} {n : Int} (h : ¬ (0 ≤ n ∧ n ≤ l.length)) : takeO l n = none := if_neg h
set_option maxRecDepth 100000 in
theorem takeO_yes {l : List Nat} {k : Nat} (h : k ≤ l.length) : takeO l (k : Int) = some (l.take k, k) := by
  unfold takeO
  rw [if_pos (by omega)]
  simp

/-- what take answers -/
def Took (w : World) (S : Nat → Prop) (p : Option Nat) (ok : Bool) (l : List Nat) (n : Int) (e : Ending) (w' : World) : Prop :=
  ∃ A m c, e = .returned (.tuple #[.slice A m c, .bool (okO ok (takeO l n))]) ∧ RB w' (fun b => S b ∧ some b ≠ p) A m (valO ok (takeO l n) []) ∧ m ≤ 140737488351232 ∧
    Rd w' S p (okO ok (takeO l n)) (leftO ok l (takeO l n)) ∧ Fr w w' S

set_option maxRecDepth 100000 in
theorem take_any (w : World) (S : Nat → Prop) (p : Option Nat) (ok : Bool) (l : List Nat) (n : Int) (h1 : -9223372036854775808 ≤ n) (h2 : n ≤ 9223372036854775807) (h : Rd w S p ok l) :
    Calls Try.prog 76 #[ptr p, .int .i64 n] w (Took w S p ok l n) := by
  have HR := Lib.hid (readable_any w S p ok l h)
  cases ok with
  | false =>
    have HD := Lib.hid h
    clear h
    go_enter Try.func76, Try.ntmps76
    go_wp2_with (go_at_call 63; refine HR.out.mono ?_; rintro e w' ⟨rfl, rfl⟩)
    go_ret2
    exact ⟨none, 0, 0, rfl, RB.nil_, by omega, HD.out, Fr.refl _ _⟩
  | true =>
    obtain ⟨g, rfl⟩ := rd_some h
    have hf := Rd.fault h
    have HD := Lib.hid hf
    obtain ⟨hS, A, m, c, hb, hr, hmc, hm⟩ := h
    have hln := hr.len
    have hc := hb.cell 1
    have hc0 := hb.cell 0
    have hc1 := hb.frozen 0
    have hc2 := hb.frozen 1
    simp only [ptr, Option.map] at HR ⊢
    by_cases hn : 0 ≤ n ∧ n ≤ l.length
    · obtain ⟨hn1, hn2⟩ := hn
      obtain ⟨k, rfl⟩ := Int.eq_ofNat_of_zero_le hn1
      have hk : k ≤ m := by omega
      have HT := Lib.hid (Rd.took hS hb hr hmc hm hk)
      have HRB := Lib.hid (hr.take hk)
      have HO := Lib.hid (takeO_yes (l := l) (k := k) (by omega))
      clear hf hb hr hln hn1 hn2
      go_enter Try.func76, Try.ntmps76
      go_wp2_with (go_at_call 63; refine HR.out.mono ?_; rintro e w' ⟨rfl, rfl⟩)
      all_goals
        go_ret2
        unfold Took
        rw [HO.out]
        refine ⟨A, k, _, rfl, (HRB.out.mono (T := fun b => S b ∧ some b ≠ some g) fun b _ hb => ⟨hb.1, fun e => hb.2 (by injection e)⟩).far (fun hh => hh.2 rfl) _, by omega, ?_⟩
        have ht := HT.out
        first | rw [if_neg ‹_›] at ht | rw [if_pos ‹_›, show c - k = 0 by omega] at ht
        exact ht
    · have HO := Lib.hid (takeO_no hn)
      have hn' : n < 0 ∨ (m : Int) < n := by omega
      clear hf hb hr hln hn
      rcases hn' with hn | hn
      · go_enter Try.func76, Try.ntmps76
        go_wp2_with (go_at_call 63; refine HR.out.mono ?_; rintro e w' ⟨rfl, rfl⟩)
        go_ret2
        unfold Took
        rw [HO.out]
        exact ⟨none, 0, 0, rfl, RB.nil_, by omega, HD.out⟩
      · have hn0 : ¬ n < 0 := by omega
        go_enter Try.func76, Try.ntmps76
        go_wp2_with (go_at_call 63; refine HR.out.mono ?_; rintro e w' ⟨rfl, rfl⟩)
        go_ret2
        unfold Took
        rw [HO.out]
        exact ⟨none, 0, 0, rfl, RB.nil_, by omega, HD.out⟩

def fixO (l : List Nat) (k : Nat) : Option (Nat × Nat) := (takeO l k).map fun x => (Cd.unfix x.1, x.2)
set_option maxRecDepth 100000 in
theorem fixO_val (ok : Bool) (l : List Nat) (k : Nat) : valO ok (fixO l k) 0 = Cd.unfix (valO ok (takeO l k) []) := by
  unfold fixO
  cases ok <;> cases takeO l k <;> rfl
set_option maxRecDepth 100000 in
theorem fixO_ok (ok : Bool) (l : List Nat) (k : Nat) : okO ok (fixO l k) = okO ok (takeO l k) := by
  unfold fixO
  cases ok <;> cases takeO l k <;> rfl
set_option maxRecDepth 100000 in
theorem fixO_left (ok : Bool) (l : List Nat) (k : Nat) : leftO ok l (fixO l k) = leftO ok l (takeO l k) := by
  unfold fixO
  cases ok <;> cases takeO l k <;> rfl
set_option maxRecDepth 100000 in
theorem takeO_len (ok : Bool) (l : List Nat) (k : Nat) : (valO ok (takeO l k) []).length ≤ k := by
  cases ok with
  | false => simp [valO]
  | true =>
    unfold takeO
    by_cases h : 0 ≤ (k : Int) ∧ (k : Int) ≤ l.length
    · rw [if_pos h]; simp [valO]; omega
    · rw [if_neg h]; simp [valO]

/-- what a reading call leaves: the answer, the reader behind it -/
def Got {α : Type} (w : World) (S : Nat → Prop) (p : Option Nat) (ok : Bool) (l : List Nat) (o : Option (α × Nat)) (w' : World) : Prop :=
  Rd w' S p (okO ok o) (leftO ok l o) ∧ Fr w w' S
set_option maxRecDepth 100000 in
theorem Got.fix {w w' : World} {S : Nat → Prop} {p : Option Nat} {ok : Bool} {l : List Nat} {k : Nat} (h1 : Rd w' S p (okO ok (takeO l k)) (leftO ok l (takeO l k))) (h2 : Fr w w' S) : Got w S p ok l (fixO l k) w' := by
  unfold Got
  rw [fixO_ok, fixO_left]
  exact ⟨h1, h2⟩
set_option maxRecDepth 100000 in
theorem unfix_step (t : List Nat) (k : Nat) (h : k < t.length) : Cd.unfix (t.take (k + 1)) = Cd.unfix (t.take k) + t.getD k 0 * 256 ^ k := by
  rw [List.take_succ_eq_append_getElem h, Cd.unfix_snoc]
  simp [h, show min k t.length = k by omega]
set_option maxRecDepth 100000 in
theorem unfix_take_lt (t : List Nat) (k : Nat) (ht : ∀ x ∈ t, x < 256) : Cd.unfix (t.take k) < 256 ^ k := by
  refine Nat.lt_of_lt_of_le (Cd.unfix_lt _ fun x hx => ht x (List.mem_of_mem_take hx)) (Nat.pow_le_pow_right (by omega) (by simp; omega))

set_option maxRecDepth 100000 in
theorem or_at8 (k r b : Nat) (hk : k < 1) (hr : r < 256 ^ k) (hb : b < 256) : bits BinOp.or .u8 (r : Int) (IntKind.u8.wrap ((b : Int) * 2 ^ (8 * k))) = ((r + b * 256 ^ k : Nat) : Int) := by
  have e2 : (2 : Nat) ^ (8 * k) = 256 ^ k := by rw [Nat.pow_mul]
  have hp : b * 256 ^ k + 256 ^ k ≤ 256 := by
    have h1 : 256 ^ k ≤ 256 ^ 0 := Nat.pow_le_pow_right (by decide) (by omega)
    have h2 : (b + 1) * 256 ^ k ≤ 256 * 256 ^ 0 := Nat.mul_le_mul (by omega) h1
    have h3 : 256 * 256 ^ 0 = 256 := by decide
    rw [h3, Nat.add_mul, Nat.one_mul] at h2
    exact h2
  have e : IntKind.u8.wrap ((b : Int) * 2 ^ (8 * k)) = ((b * 256 ^ k : Nat) : Int) := by
    have e1 : (b : Int) * 2 ^ (8 * k) = ((b * 256 ^ k : Nat) : Int) := by rw [← e2]; simp
    rw [e1, IntKind.wrap_u8]
    omega
  have hpos : 0 < 256 ^ k := Nat.pow_pos (by decide)
  rw [e, u8_or_nat r _ (by omega) (by omega)]
  have h := Nat.two_pow_add_eq_or_of_lt (i := 8 * k) (by rw [e2]; exact hr) b
  rw [e2, Nat.mul_comm] at h
  rw [Nat.or_comm, ← h, Nat.add_comm]
set_option maxRecDepth 100000 in
theorem readFix8_any (w : World) (S : Nat → Prop) (p : Option Nat) (ok : Bool) (l : List Nat) (h : Rd w S p ok l) :
    Calls Try.prog 75 #[ptr p] w fun e w' => e = .returned (.int .u8 ((valO ok (fixO l 1) 0 : Nat) : Int)) ∧ Got w S p ok l (fixO l 1) w' := by
  have HT := Lib.hid (take_any w S p ok l 1 (by omega) (by omega) h)
  clear h
  go_enter Try.func75, Try.ntmps75
  go_wp2_with (go_at_call 77; refine (size8 _).mono ?_; rintro e w' ⟨rfl, rfl⟩)
  refine HT.out.mono ?_
  rintro e w1 ⟨A, m, c, rfl, hr, hm, hd, hf⟩
  have hm8 : m ≤ 1 := by rw [← hr.len]; exact takeO_len ok l 1
  have HG := Lib.hid (Got.fix hd hf)
  have HV := Lib.hid (fixO_val ok l 1)
  obtain ⟨t, ht⟩ : ∃ t, t = valO ok (takeO l (1 : Nat)) [] := ⟨_, rfl⟩
  have hr' : RB w1 (fun b => S b ∧ some b ≠ p) A m t := by rw [ht]; exact hr
  have HRB := Lib.hid hr'
  have HTT := Lib.hid ht
  clear hr hr' hd hf ht
  go_wp2
  go_loop [5, 16] (fun y i => ∃ k r : Nat, k ≤ m ∧ i = .int .i64 (k : Int) ∧ r = Cd.unfix (t.take k) ∧ y = .int .u8 (r : Int)) (fun _ i => m - (intOf i).toNat)
  case atStart => exact ⟨0, 0, by omega, rfl, by simp [Cd.unfix], rfl⟩
  case round =>
    obtain ⟨k, r, hk, rfl, hr, rfl⟩ := hrel
    have HR := Lib.hid hr
    clear hr
    by_cases hlt : k < m
    · obtain ⟨ad, rfl, hx, hc⟩ := HRB.out.at_ hlt
      obtain ⟨b, hb⟩ : ∃ b, b = t.getD k 0 := ⟨_, rfl⟩
      rw [← hb] at hx hc
      have HB := Lib.hid hb
      clear hb
      go_wp2
      go_round
      case rel =>
        have hl := HRB.out.len
        have hrl : r < 256 ^ k := by rw [HR.out]; exact unfix_take_lt t k HRB.out.lt
        refine ⟨k + 1, r + b * 256 ^ k, by omega, by go_num, ?_, ?_⟩
        · rw [unfix_step t k (by omega), HR.out, HB.out]
        · rw [← IntKind.wrap_u8, or_at8 k r b (by omega) hrl hx]
      case measure => simp [intOf]; omega
    · obtain rfl : k = m := by omega
      go_wp2
      go_ret
      have hl := HRB.out.len
      rw [HV.out, ← HTT.out]
      have hr := HR.out
      rw [List.take_of_length_le (by omega)] at hr
      rw [← hr]
      exact ⟨rfl, HG.out⟩
set_option maxRecDepth 100000 in
theorem signed_any (x : Nat) (h : x < 18446744073709551616) (w : World) :
    Calls Try.prog 71 #[.int .u64 (x : Int)] w fun e w' => e = .returned (.int .i64 (Cd.unzz x)) ∧ w = w' := by
  by_cases hx : x % 2 = 0
  · have hz : Cd.unzz x = (x : Int) / 2 := by unfold Cd.unzz; rw [if_pos hx]; omega
    have hd : ((x : Int) % 2 == 0) = true := by simp; omega
    rw [hz]
    clear hz hx
    go_enter Try.func71, Try.ntmps71
    go_wp2
    go_ret
    exact ⟨rfl, rfl⟩
  · have hz : Cd.unzz x = -((x : Int) / 2) - 1 := by unfold Cd.unzz; rw [if_neg hx]; omega
    have hn := not_i64 ((x : Int) / 2) (by omega) (by omega)
    have hd : ((x : Int) % 2 == 0) = false := by simp; omega
    rw [hz]
    clear hz hx
    go_enter Try.func71, Try.ntmps71
    go_wp2
    all_goals first | (exfalso; simp_all; done) | skip
    go_ret
    exact ⟨rfl, rfl⟩

def frontP (l : List Nat) : Nat × Nat := (Cd.front l).getD (0, 0)
def frontV (l : List Nat) : Value := .tuple #[.int .u64 (((frontP l).1 : Nat) : Int), .int .i64 (((frontP l).2 : Nat) : Int)]
set_option maxRecDepth 100000 in
theorem frontV_none {l : List Nat} (h : Cd.front l = none) : Value.tuple #[.int .u64 0, .int .i64 0] = frontV l := by
  unfold frontV frontP
  rw [h]
  rfl
set_option maxRecDepth 100000 in
theorem frontV_some {l : List Nat} {x n : Nat} (h : Cd.front l = some (x, n)) : frontV l = Value.tuple #[.int .u64 (x : Int), .int .i64 (n : Int)] := by
  unfold frontV frontP
  rw [h]
  rfl
set_option maxRecDepth 100000 in
theorem or_seven (k r b : Nat) (hr : r < 128 ^ k) (hb : b % 128 * 128 ^ k + 128 ^ k ≤ 18446744073709551616) :
    bits BinOp.or .u64 (r : Int) (IntKind.u64.wrap ((b : Int) % 128 * 2 ^ (7 * k))) = ((r + b % 128 * 128 ^ k : Nat) : Int) := by
  have e2 : (2 : Nat) ^ (7 * k) = 128 ^ k := by rw [Nat.pow_mul]
  have hpos : 0 < 128 ^ k := Nat.pow_pos (by decide)
  have e : IntKind.u64.wrap ((b : Int) % 128 * 2 ^ (7 * k)) = ((b % 128 * 128 ^ k : Nat) : Int) := by
    have e1 : (b : Int) % 128 * 2 ^ (7 * k) = ((b % 128 * 128 ^ k : Nat) : Int) := by rw [← e2]; simp
    rw [e1, IntKind.wrap_u64]
    omega
  rw [e, u64_or_nat r _ (by omega) (by omega)]
  have h := Nat.two_pow_add_eq_or_of_lt (i := 7 * k) (by rw [e2]; exact hr) (b % 128)
  rw [e2, Nat.mul_comm] at h
  rw [Nat.or_comm, ← h, Nat.add_comm]
set_option maxRecDepth 100000 in
theorem val_take (l : List Nat) (k : Nat) (h : k < l.length) : Cd.val (l.take (k + 1)) = Cd.val (l.take k) + l.getD k 0 % 128 * 128 ^ k := by
  rw [List.take_succ_eq_append_getElem h, Cd.val_snoc]
  simp [h, show min k l.length = k by omega]
set_option maxRecDepth 100000 in
theorem val_take_lt (l : List Nat) (k : Nat) : Cd.val (l.take k) < 128 ^ k :=
  Nat.lt_of_lt_of_le (Cd.val_lt _) (Nat.pow_le_pow_right (by omega) (by simp; omega))

set_option maxRecDepth 100000 in
set_option maxHeartbeats 1000000 in
theorem counted_any (w : World) (T : Nat → Prop) (A : Option Addr) (n c : Nat) (l : List Nat) (hr : RB w T A n l) (hn : n ≤ 140737488351232) :
    Calls Try.prog 73 #[.slice A n c] w fun e w' => e = .returned (frontV l) ∧ w = w' := by
  have HRB := Lib.hid hr
  clear hr
  go_enter Try.func73, Try.ntmps73
  go_wp2
  go_loop [4, 9] (fun y i => ∃ k r : Nat, k ≤ n ∧ k ≤ 9 ∧ (∀ j, j < k → 128 ≤ l.getD j 0) ∧ i = .int .i64 (k : Int) ∧ r = Cd.val (l.take k) ∧ y = .int .u64 (r : Int)) (fun _ i => n - (intOf i).toNat)
  case atStart => exact ⟨0, 0, by omega, by omega, by omega, rfl, by simp [Cd.val], rfl⟩
  case round =>
    obtain ⟨k, r, hk, hk9, hm, rfl, hr, rfl⟩ := hrel
    have HR := Lib.hid hr
    have HM := Lib.hid hm
    clear hr hm
    by_cases hlt : k < n
    · obtain ⟨ad, rfl, hx, hc⟩ := HRB.out.at_ hlt
      obtain ⟨b, hb⟩ : ∃ b, b = l.getD k 0 := ⟨_, rfl⟩
      rw [← hb] at hx hc
      have HB := Lib.hid hb
      clear hb
      by_cases h9 : k = 9
      · have hke : ((k : Int) == 9) = true := by simp; omega
        have hk10 : 9 ≤ k := by omega
        clear h9
        by_cases hb1 : 1 < b
        · go_wp2
          go_ret2
          have hl := HRB.out.len
          refine ⟨congrArg _ (frontV_none (Cd.front_none ?_)), rfl⟩
          have e9 : k = 9 := by omega
          have hb := HB.out
          rw [e9] at hb
          have h9 := Cd.lead_ge l k (by omega) HM.out
          omega
        · by_cases hb0 : b = 0
          · have hbe : ((b : Int) == 0) = true := by simp; omega
            have hb00 : b ≤ 0 := by omega
            clear hb0
            go_wp2
            go_ret2
            have hl := HRB.out.len
            refine ⟨congrArg _ (frontV_none (Cd.front_none ?_)), rfl⟩
            have hb := HB.out
            have he := Cd.lead_eq l k (by omega) HM.out (by omega)
            rw [he]
            omega
          · have hbe : ((b : Int) == 0) = false := by simp; omega
            have hb00 : 0 < b := by omega
            clear hb0
            go_wp2
            go_ret2
            have hl := HRB.out.len
            have hb := HB.out
            have he := Cd.lead_eq l k (by omega) HM.out (by omega)
            have e9 : k = 9 := by omega
            have hf : Cd.front l = some (Cd.val (l.take (k + 1)), k + 1) := by
              rw [Cd.front_some (by omega) (by omega) (by intro _; rw [← e9, ← hb]; omega) (by intro _; rw [he, ← hb]; omega), he]
            have hrl : r < 128 ^ k := by rw [HR.out]; exact val_take_lt l k
            have hb1' : b = 1 := by omega
            have e128 : 128 ^ k = 9223372036854775808 := by rw [e9]
            rw [frontV_some hf, val_take l k (by omega), ← hb, ← HR.out, ← or_seven k r b hrl (by rw [hb1', e128]; decide)]
            exact ⟨rfl, rfl⟩
      · have hne : ((k : Int) == 9) = false := by simp; omega
        have hk8 : k < 9 := by omega
        clear h9
        have h128 : 128 ^ k ≤ 72057594037927936 := by
          have : 128 ^ k ≤ 128 ^ 8 := Nat.pow_le_pow_right (by omega) (by omega)
          exact this
        have HP := Lib.hid h128
        clear h128
        by_cases hb : 128 ≤ b
        · go_wp2
          go_round
          case rel =>
            have hl := HRB.out.len
            have hrl : r < 128 ^ k := by rw [HR.out]; exact val_take_lt l k
            have hp := HP.out
            have hm : b % 128 * 128 ^ k ≤ 127 * 128 ^ k := Nat.mul_le_mul_right _ (by omega)
            refine ⟨k + 1, r + b % 128 * 128 ^ k, by omega, by omega, ?_, by go_num, ?_, ?_⟩
            · intro j hj
              by_cases hjk : j = k
              · rw [hjk, ← HB.out]; exact hb
              · exact HM.out j (by omega)
            · rw [val_take l k (by omega), HR.out, HB.out]
            · rw [or_seven k r b hrl (by omega)]
          case measure => simp [intOf]; omega
        · by_cases hb0 : b = 0
          · have hbe : ((b : Int) == 0) = true := by simp; omega
            have hb00 : b ≤ 0 := by omega
            clear hb0
            by_cases h0 : 0 < k
            · go_wp2
              go_ret2
              have hl := HRB.out.len
              refine ⟨congrArg _ (frontV_none (Cd.front_none ?_)), rfl⟩
              have hb := HB.out
              have he := Cd.lead_eq l k (by omega) HM.out (by omega)
              rw [he]
              omega
            · go_wp2
              go_ret2
              have hl := HRB.out.len
              have hb' := HB.out
              have he := Cd.lead_eq l k (by omega) HM.out (by omega)
              have hf : Cd.front l = some (Cd.val (l.take (k + 1)), k + 1) := by
                rw [Cd.front_some (by omega) (by omega) (by omega) (by omega), he]
              have hrl : r < 128 ^ k := by rw [HR.out]; exact val_take_lt l k
              have hp := HP.out
              have hm : b % 128 * 128 ^ k ≤ 127 * 128 ^ k := Nat.mul_le_mul_right _ (by omega)
              rw [frontV_some hf, val_take l k (by omega), ← hb', ← HR.out, ← or_seven k r b hrl (by omega)]
              exact ⟨rfl, rfl⟩
          · have hbne : ((b : Int) == 0) = false := by simp; omega
            have hb00 : 0 < b := by omega
            clear hb0
            go_wp2
            go_ret2
            have hl := HRB.out.len
            have hb' := HB.out
            have he := Cd.lead_eq l k (by omega) HM.out (by omega)
            have hf : Cd.front l = some (Cd.val (l.take (k + 1)), k + 1) := by
              rw [Cd.front_some (by omega) (by omega) (by omega) (by intro _; rw [he, ← hb']; omega), he]
            have hrl : r < 128 ^ k := by rw [HR.out]; exact val_take_lt l k
            have hp := HP.out
            have hm : b % 128 * 128 ^ k ≤ 127 * 128 ^ k := Nat.mul_le_mul_right _ (by omega)
            rw [frontV_some hf, val_take l k (by omega), ← hb', ← HR.out, ← or_seven k r b hrl (by omega)]
            exact ⟨rfl, rfl⟩
    · obtain rfl : k = n := by omega
      go_wp2
      go_ret2
      have hl := HRB.out.len
      refine ⟨congrArg _ (frontV_none (Cd.front_none (Or.inl ?_))), rfl⟩
      exact Cd.lead_ge l _ (Nat.le_refl _) fun j hj => HM.out j (by omega)

/-! ### The counted and the signed number, the raw bytes, the fixed numbers of a reader -/
set_option maxRecDepth 100000 in
theorem frontV_eq (l : List Nat) : ∃ x n : Nat, frontV l = .tuple #[.int .u64 (x : Int), .int .i64 (n : Int)] ∧ ((Cd.front l = none ∧ x = 0 ∧ n = 0) ∨ (Cd.front l = some (x, n) ∧ 0 < n ∧ n ≤ l.length ∧ x < 18446744073709551616)) := by
  cases h : Cd.front l with
  | none => exact ⟨0, 0, (frontV_none h).symm, Or.inl ⟨rfl, rfl, rfl⟩⟩
  | some q =>
    obtain ⟨x, n⟩ := q
    have := Cd.front_pos h
    exact ⟨x, n, frontV_some h, Or.inr ⟨rfl, by omega, by omega, Cd.front_lt h⟩⟩

set_option maxRecDepth 100000 in
theorem uint_any (w : World) (S : Nat → Prop) (p : Option Nat) (ok : Bool) (l : List Nat) (h : Rd w S p ok l) :
    Calls Try.prog 72 #[ptr p] w fun e w' => e = .returned (.int .u64 ((valO ok (Cd.front l) 0 : Nat) : Int)) ∧ Got w S p ok l (Cd.front l) w' := by
  have HR := Lib.hid (readable_any w S p ok l h)
  cases ok with
  | false =>
    have HD := Lib.hid h
    clear h
    go_enter Try.func72, Try.ntmps72
    go_wp2_with (go_at_call 63; refine HR.out.mono ?_; rintro e w' ⟨rfl, rfl⟩)
    go_ret
    exact ⟨rfl, HD.out, Fr.refl _ _⟩
  | true =>
    obtain ⟨g, rfl⟩ := rd_some h
    have hf := Rd.fault h
    have HD := Lib.hid hf
    obtain ⟨hS, A, m, c, hb, hr, hmc, hm⟩ := h
    have hln := hr.len
    have hc := hb.cell 1
    have hc0 := hb.cell 0
    have hc1 := hb.frozen 0
    have hc2 := hb.frozen 1
    have hcn := counted_any w _ A m c l hr hm
    obtain ⟨x, k, he, hk⟩ := frontV_eq l
    rw [he] at hcn
    have HC := Lib.hid hcn
    have HB := Lib.hid hb
    have HRB := Lib.hid hr
    clear he hcn hf hb hr
    simp only [ptr, Option.map] at HR ⊢
    rcases hk with ⟨hk, rfl, rfl⟩ | ⟨hk, hk0, hkl, hx⟩
    · rw [hk]
      clear hk
      go_enter Try.func72, Try.ntmps72
      go_wp2_with (first | (go_at_call 63; refine HR.out.mono ?_; rintro e w' ⟨rfl, rfl⟩) | (go_at_call 73; refine HC.out.mono ?_; rintro e w' ⟨rfl, rfl⟩))
      go_ret
      exact ⟨rfl, HD.out⟩
    · rw [hk]
      have hkm : k ≤ m := by omega
      have hkne : ((k : Int) == 0) = false := by simp; omega
      have HT := Lib.hid (Rd.took hS HB.out HRB.out hmc hm hkm)
      clear hk
      go_enter Try.func72, Try.ntmps72
      go_wp2_with (first | (go_at_call 63; refine HR.out.mono ?_; rintro e w' ⟨rfl, rfl⟩) | (go_at_call 73; refine HC.out.mono ?_; rintro e w' ⟨rfl, rfl⟩))
      all_goals
        go_ret
        have ht := HT.out
        first | rw [if_neg ‹_›] at ht | rw [if_pos ‹_›, show c - k = 0 by omega] at ht
        exact ⟨rfl, ht⟩
set_option maxRecDepth 100000 in
theorem run_conv (T : Nat → Prop) (A : Option Addr) (n c : Nat) (l : List Nat) (w : World) (h : RB w T A n l) :
    (convert 57 9 (.slice A n c)).run Try.prog w = .ok (.string (bs l)) w := by
  obtain ⟨hl, hx, h3⟩ := h
  rw [run_convert_bytes_string w 57 9 5 A n c Try.underlying57 Try.underlying5 Try.underlying9]
  rcases A with _ | ad
  · have hn : n = 0 := by
      rcases Nat.eq_zero_or_pos n with h0 | h0
      · exact h0
      · obtain ⟨_, e, _⟩ := h3 h0
        cases e
    subst hn
    have : l = [] := List.eq_nil_of_length_eq_zero hl
    subst this
    simp [Conv.bytesToString, bs]
    rfl
  · have hload : (loadCells ad n).run Try.prog w = .ok ((l.map fun x : Nat => (x : Int)).map (Value.int .u8)).toArray w := by
      have := run_loadCells_list (P := Try.prog) w ad ((l.map fun x : Nat => (x : Int)).map (Value.int .u8)) (fun j v hj => by
        have hjl : j < l.length := by
          rcases Nat.lt_or_ge j l.length with h | h
          · exact h
          · simp [List.getElem?_eq_none h] at hj
        obtain ⟨ad', e, _, _, hc⟩ := h3 (by omega)
        cases e
        rw [hc j (by omega)]
        simp [List.getElem?_eq_getElem hjl] at hj
        subst hj
        simp [hjl])
      simpa [hl] using this
    rw [run_bytesToString w ad n c _ hload, foldl_push_bytes]
    simp [bs, ByteArray.empty, ByteArray.emptyWithCapacity]
    rfl

set_option maxRecDepth 100000 in
theorem ru8_any (w : World) (S : Nat → Prop) (p : Option Nat) (ok : Bool) (l : List Nat) (h : Rd w S p ok l) :
    Calls Try.prog 53 #[ptr p] w fun e w' => e = .returned (.int .u8 ((valO ok (fixO l 1) 0 : Nat) : Int)) ∧ Got w S p ok l (fixO l 1) w' := by
  have HC := Lib.hid (readFix8_any w S p ok l h)
  clear h
  go_enter Try.func53, Try.ntmps53
  go_wp2_with (go_at_call 75; refine HC.out.mono ?_; rintro e w' ⟨rfl, hw⟩; have HW := Lib.hid hw; clear hw)
  go_ret
  exact ⟨rfl, HW.out⟩
/-- a signed number at the front -/
def intO (l : List Nat) : Option (Int × Nat) := (Cd.front l).map fun x => (Cd.unzz x.1, x.2)
set_option maxRecDepth 100000 in
theorem intO_val (ok : Bool) (l : List Nat) : valO ok (intO l) 0 = Cd.unzz (valO ok (Cd.front l) 0) := by
  unfold intO
  cases ok <;> cases Cd.front l <;> first | rfl | simp [valO, Cd.unzz]
set_option maxRecDepth 100000 in
theorem intO_ok (ok : Bool) (l : List Nat) : okO ok (intO l) = okO ok (Cd.front l) := by
  unfold intO
  cases ok <;> cases Cd.front l <;> rfl
set_option maxRecDepth 100000 in
theorem intO_left (ok : Bool) (l : List Nat) : leftO ok l (intO l) = leftO ok l (Cd.front l) := by
  unfold intO
  cases ok <;> cases Cd.front l <;> rfl
set_option maxRecDepth 100000 in
theorem Got.int {w w' : World} {S : Nat → Prop} {p : Option Nat} {ok : Bool} {l : List Nat} (h : Got w S p ok l (Cd.front l) w') : Got w S p ok l (intO l) w' := by
  unfold Got at h ⊢
  rw [intO_ok, intO_left]
  exact h
set_option maxRecDepth 100000 in
theorem valO_lt (ok : Bool) (l : List Nat) : valO ok (Cd.front l) 0 < 18446744073709551616 := by
  cases ok with
  | false => simp [valO]
  | true =>
    cases h : Cd.front l with
    | none => simp [valO]
    | some q => exact Cd.front_lt h
set_option maxRecDepth 100000 in
theorem rint_any (w : World) (S : Nat → Prop) (p : Option Nat) (ok : Bool) (l : List Nat) (h : Rd w S p ok l) :
    Calls Try.prog 45 #[ptr p] w fun e w' => e = .returned (.int .i64 (valO ok (intO l) 0)) ∧ Got w S p ok l (intO l) w' := by
  have HC := Lib.hid (uint_any w S p ok l h)
  have HS := Lib.hid (signed_any _ (valO_lt ok l))
  rw [intO_val]
  clear h
  go_enter Try.func45, Try.ntmps45
  go_wp2_with (first | (go_at_call 72; refine HC.out.mono ?_; rintro e w' ⟨rfl, hw⟩; have HW := Lib.hid (Got.int hw); clear hw) | (go_at_call 71; refine (HS.out _).mono ?_; rintro e w' ⟨rfl, rfl⟩))
  go_ret
  exact ⟨rfl, HW.out⟩

/-- what Raw answers: a new row -/
def Raws (w : World) (S : Nat → Prop) (p : Option Nat) (ok : Bool) (l : List Nat) (n : Int) (e : Ending) (w' : World) : Prop :=
  ∃ v k, e = .returned v ∧ k = (valO ok (takeO l n) []).length ∧ Ow w' (fun b => w.heap.size ≤ b) v k (valO ok (takeO l n) []) ∧ Got w S p ok l (takeO l n) w'
set_option maxRecDepth 100000 in
theorem Rd.up {w : World} {S : Nat → Prop} {p : Option Nat} {ok : Bool} {l : List Nat} (h : Rd w S p ok l) : Rd w (fun b => S b ∧ b < w.heap.size) p ok l := Rd.mono h fun _ hb hs => ⟨hs, hb⟩

set_option maxRecDepth 100000 in
theorem rraw_any (w : World) (S : Nat → Prop) (p : Option Nat) (ok : Bool) (l : List Nat) (n : Int) (h1 : -9223372036854775808 ≤ n) (h2 : n ≤ 9223372036854775807) (h : Rd w S p ok l) :
    Calls Try.prog 59 #[ptr p, .int .i64 n] w (Raws w S p ok l n) := by
  have HT := Lib.hid (take_any w S p ok l n h1 h2 h)
  clear h
  go_enter Try.func59, Try.ntmps59
  go_wp2_with fail
  refine HT.out.mono ?_
  rintro e w1 ⟨A, m, c, rfl, hr, hm, hd, hf⟩
  have hsz := hf.size
  have HC := Lib.hid (clone_any w1 _ A m c _ hr hm)
  have HD := Lib.hid (Rd.up hd)
  have HF := Lib.hid hf
  clear hr hd hf
  go_wp2_with fail
  refine HC.out.mono ?_
  rintro e w2 ⟨v, rfl, ho, hb⟩
  have HO := Lib.hid ho
  have HB := Lib.hid hb
  clear ho hb
  go_wp2
  go_ret
  have hfb := Fr.of_below HB.out (fun b => w1.heap.size ≤ b)
  refine ⟨v, _, rfl, rfl, HO.out.mono fun b _ hb => by omega, (Rd.keep HD.out hfb fun b hb => by omega).mono fun b _ hb => hb.1, HF.out.trans hfb fun b hb => Or.inr (by omega)⟩

set_option maxRecDepth 100000 in
theorem text_no {l : List Nat} {most : Int} {x k : Nat} (h : Cd.front l = some (x, k)) (hc : most < 0 ∨ most < x ∨ l.length - k < x) : Cd.text l most = none := by
  unfold Cd.text
  rw [h]
  exact if_pos hc
set_option maxRecDepth 100000 in
theorem text_yes {l : List Nat} {most : Int} {x k : Nat} (h : Cd.front l = some (x, k)) (hc : ¬ (most < 0 ∨ most < x ∨ l.length - k < x)) : Cd.text l most = some ((l.drop k).take x, k + x) := by
  unfold Cd.text
  rw [h]
  exact if_neg hc
set_option maxRecDepth 100000 in
theorem text_none {l : List Nat} {most : Int} (h : Cd.front l = none) : Cd.text l most = none := by
  unfold Cd.text
  rw [h]
def strV (ok : Bool) (l : List Nat) (most : Int) : Value := .string (bs (valO ok (Cd.text l most) []))

set_option maxRecDepth 100000 in
theorem Rd.at_ {w : World} {S : Nat → Prop} {g : Nat} {ok : Bool} {l' : List Nat} {A B : Option Addr} {n c n' c' : Nat} (hS : S g) (hb : Blk w g 86 #[.bool ok, .slice A n c]) (hr : RB w (fun b => S b ∧ b ≠ g) B n' l') (hc : n' ≤ c') (hn : n' ≤ 140737488351232) :
    Rd (w.setCell ⟨g, 1, none⟩ (.slice B n' c')) S (some g) ok l' ∧ Fr w (w.setCell ⟨g, 1, none⟩ (.slice B n' c')) S :=
  ⟨⟨hS, _, _, _, by simpa using hb.set_ 1 (.slice B n' c'), hr.far (fun hh => hh.2 rfl) _, hc, hn⟩, (Fr.refl _ _).setCell (Or.inl hS) _⟩

set_option maxRecDepth 100000 in
set_option maxHeartbeats 1000000 in
theorem text_full (w : World) (S : Nat → Prop) (g : Nat) (l : List Nat) (most : Int) (h1 : 0 ≤ most) (h2 : most ≤ 9223372036854775807) (ad : Addr) (k : Nat) (hk0 : 0 < k) (hk10 : k ≤ 10) (hS : S g)
    (hb : Blk w g 86 #[.bool true, .slice (some ad) k k]) (hr : RB w (fun b => S b ∧ b ≠ g) (some ad) k l) (hf : Cd.front l = some (0, k)) :
    Calls Try.prog 49 #[ptr (some g), .int .i64 most] w fun e w' => e = .returned (strV true l most) ∧ Got w S (some g) true l (Cd.text l most) w' := by
  have hln := hr.len
  have HR := Lib.hid (readable_any w S (some g) true l ⟨hS, _, _, _, hb, hr, Nat.le_refl _, by omega⟩)
  have hcn := counted_any w _ (some ad) k k l hr (by omega)
  rw [frontV_some hf] at hcn
  have hcn' : Calls Try.prog 73 #[.slice (some ad) k k] w fun e w' => e = .returned (.tuple #[.int .u64 0, .int .i64 (k : Int)]) ∧ w = w' := hcn
  have HC := Lib.hid hcn'
  have HT := Lib.hid (Rd.took (k := k) hS hb hr (Nat.le_refl _) (by omega) (Nat.le_refl _))
  have HY := Lib.hid (text_yes (most := most) hf (by omega))
  have hc := hb.cell 1
  have hc0 := hb.cell 0
  have hc1 := hb.frozen 0
  have hc2 := hb.frozen 1
  have hkne : ((k : Int) == 0) = false := by simp; omega
  have hcv := fun (X : Value) (C : Nat) => run_conv (fun _ => True) (some ad) 0 C [] (w.setCell ⟨g, 1, none⟩ X) ⟨rfl, by simp, fun h => absurd h (by omega)⟩
  clear hb hr hf hcn hcn' hln
  simp only [ptr, Option.map] at HR ⊢
  go_enter Try.func49, Try.ntmps49
  go_wp2_with (first | (go_at_call 63; refine HR.out.mono ?_; rintro e w' ⟨rfl, rfl⟩) | (go_at_call 73; refine HC.out.mono ?_; rintro e w' ⟨rfl, rfl⟩))
  go_ret
  unfold strV
  rw [HY.out]
  have ht := HT.out
  rw [if_pos trivial, Nat.sub_self] at ht
  exact ⟨rfl, ht⟩

set_option maxRecDepth 100000 in
set_option maxHeartbeats 1000000 in
theorem text_part (w : World) (S : Nat → Prop) (g : Nat) (l : List Nat) (most : Int) (h1 : 0 ≤ most) (h2 : most ≤ 9223372036854775807) (ad : Addr) (m c x k : Nat) (hk0 : 0 < k) (hS : S g) (hmc : m ≤ c) (hm : m ≤ 140737488351232)
    (hb : Blk w g 86 #[.bool true, .slice (some ad) m c]) (hr : RB w (fun b => S b ∧ b ≠ g) (some ad) m l) (hf : Cd.front l = some (x, k)) (hx : x < 18446744073709551616) (hkm : k ≤ m) (hck : ¬ c = k) (hxm : x ≤ m - k) (hxo : x ≤ most) :
    Calls Try.prog 49 #[ptr (some g), .int .i64 most] w fun e w' => e = .returned (strV true l most) ∧ Got w S (some g) true l (Cd.text l most) w' := by
  have hln := hr.len
  have HR := Lib.hid (readable_any w S (some g) true l ⟨hS, _, _, _, hb, hr, hmc, hm⟩)
  have hcn := counted_any w _ (some ad) m c l hr hm
  rw [frontV_some hf] at hcn
  have HC := Lib.hid hcn
  have HY := Lib.hid (text_yes (most := most) hf (by omega))
  have HB := Lib.hid hb
  have hc := hb.cell 1
  have hc0 := hb.cell 0
  have hc1 := hb.frozen 0
  have hc2 := hb.frozen 1
  have hkne : ((k : Int) == 0) = false := by simp; omega
  have hbeh := hr.drop hkm hmc
  rw [if_neg hck] at hbeh
  have hbeh' : RB w (fun b => S b ∧ b ≠ g) (some (ad.add k)) (m - k) (l.drop k) := hbeh
  have hcv := fun (X : Value) (C : Nat) => run_conv _ _ x C _ (w.setCell ⟨g, 1, none⟩ X) ((hbeh'.take hxm).far (fun hh => hh.2 rfl) X)
  have HX := Lib.hid hbeh'
  have HK := Lib.hid hck
  have hck2 : k < c := by omega
  clear hb hr hf hcn hln hbeh hbeh' hck
  simp only [ptr, Option.map] at HR ⊢
  go_enter Try.func49, Try.ntmps49
  go_wp2_with (first | (go_at_call 63; refine HR.out.mono ?_; rintro e w' ⟨rfl, rfl⟩) | (go_at_call 73; refine HC.out.mono ?_; rintro e w' ⟨rfl, rfl⟩))
  all_goals
    go_ret
    unfold strV
    rw [HY.out]
    have hd := HX.out.drop hxm (show m - k ≤ c - k by omega)
    rw [List.drop_drop] at hd
    refine ⟨rfl, ?_⟩
    by_cases hcx : c - k = x
    · rw [if_pos hcx] at hd
      first
      | exact Rd.at_ hS HB.out hd (by omega) (by omega)
      | (exfalso; revert hcx; assumption)
    · rw [if_neg hcx] at hd
      first
      | exact Rd.at_ hS HB.out hd (by omega) (by omega)
      | (exfalso; apply hcx; assumption)

set_option maxRecDepth 100000 in
set_option maxHeartbeats 1000000 in
theorem text_any (w : World) (S : Nat → Prop) (p : Option Nat) (ok : Bool) (l : List Nat) (most : Int) (h1 : -9223372036854775808 ≤ most) (h2 : most ≤ 9223372036854775807) (h : Rd w S p ok l) :
    Calls Try.prog 49 #[ptr p, .int .i64 most] w fun e w' => e = .returned (strV ok l most) ∧ Got w S p ok l (Cd.text l most) w' := by
  have HR := Lib.hid (readable_any w S p ok l h)
  cases ok with
  | false =>
    have HD := Lib.hid h
    clear h
    go_enter Try.func49, Try.ntmps49
    go_wp2_with (go_at_call 63; refine HR.out.mono ?_; rintro e w' ⟨rfl, rfl⟩)
    go_ret
    exact ⟨rfl, HD.out, Fr.refl _ _⟩
  | true =>
    obtain ⟨g, rfl⟩ := rd_some h
    have hf := Rd.fault h
    have HD := Lib.hid hf
    obtain ⟨hS, A, m, c, hb, hr, hmc, hm⟩ := h
    have hln := hr.len
    cases hfr : Cd.front l with
    | none =>
      have hc := hb.cell 1
      have hc0 := hb.cell 0
      have hc1 := hb.frozen 0
      have hcn := counted_any w _ A m c l hr hm
      rw [← frontV_none hfr] at hcn
      have HC := Lib.hid hcn
      have HN := Lib.hid (text_none (most := most) hfr)
      clear hcn hf hb hr hfr
      simp only [ptr, Option.map] at HR ⊢
      go_enter Try.func49, Try.ntmps49
      go_wp2_with (first | (go_at_call 63; refine HR.out.mono ?_; rintro e w' ⟨rfl, rfl⟩) | (go_at_call 73; refine HC.out.mono ?_; rintro e w' ⟨rfl, rfl⟩))
      all_goals
        go_ret
        unfold strV
        rw [HN.out]
        exact ⟨rfl, HD.out⟩
    | some q =>
      obtain ⟨x, k⟩ := q
      obtain ⟨hk0, hkl, hk10⟩ := Cd.front_pos hfr
      have hx := Cd.front_lt hfr
      have hkm : k ≤ m := by omega
      obtain ⟨ad, rfl, _, _⟩ := hr.at_ (k := 0) (by omega)
      by_cases hbad : most < 0 ∨ most < x ∨ l.length - k < x
      · have HN := Lib.hid (text_no hfr hbad)
        have hc := hb.cell 1
        have hc0 := hb.cell 0
        have hc1 := hb.frozen 0
        have hcn := counted_any w _ (some ad) m c l hr hm
        rw [frontV_some hfr] at hcn
        have HC := Lib.hid hcn
        have hkne : ((k : Int) == 0) = false := by simp; omega
        clear hcn hf hb hr hfr
        simp only [ptr, Option.map] at HR ⊢
        by_cases hm0 : most < 0
        · clear hbad
          go_enter Try.func49, Try.ntmps49
          go_wp2_with (first | (go_at_call 63; refine HR.out.mono ?_; rintro e w' ⟨rfl, rfl⟩) | (go_at_call 73; refine HC.out.mono ?_; rintro e w' ⟨rfl, rfl⟩))
          all_goals
            go_ret
            unfold strV
            rw [HN.out]
            exact ⟨rfl, HD.out⟩
        · by_cases hmx : most < x
          · clear hbad
            go_enter Try.func49, Try.ntmps49
            go_wp2_with (first | (go_at_call 63; refine HR.out.mono ?_; rintro e w' ⟨rfl, rfl⟩) | (go_at_call 73; refine HC.out.mono ?_; rintro e w' ⟨rfl, rfl⟩))
            all_goals
              go_ret
              unfold strV
              rw [HN.out]
              exact ⟨rfl, HD.out⟩
          · have hmk : m - k < x := by omega
            clear hbad
            go_enter Try.func49, Try.ntmps49
            go_wp2_with (first | (go_at_call 63; refine HR.out.mono ?_; rintro e w' ⟨rfl, rfl⟩) | (go_at_call 73; refine HC.out.mono ?_; rintro e w' ⟨rfl, rfl⟩))
            all_goals
              go_ret
              unfold strV
              rw [HN.out]
              exact ⟨rfl, HD.out⟩
      · have hb1 : ¬ most < 0 := fun h => hbad (Or.inl h)
        have hb2 : ¬ most < x := fun h => hbad (Or.inr (Or.inl h))
        have hb3 : ¬ l.length - k < x := fun h => hbad (Or.inr (Or.inr h))
        clear HR HD hf
        by_cases hck : c = k
        · subst hck
          obtain rfl : m = c := by omega
          obtain rfl : x = 0 := by omega
          exact text_full w S g l most (by omega) h2 ad m hk0 hk10 hS hb hr hfr
        · exact text_part w S g l most (by omega) h2 ad m c x k hk0 hS hmc hm hb hr hfr hx hkm hck (by omega) (by omega)

/-- block g begins with the bytes l, that may be written -/
def BB (w : World) (g : Nat) (l : List Nat) : Prop :=
  (∃ cs mk, w.heap[g]? = some (.cells cs 5 mk) ∧ l.length ≤ mk.1 ∧ ∀ j, j < l.length → cs[j]? = some (.int .u8 ((l.getD j 0 : Nat) : Int))) ∧ ∀ x ∈ l, x < 256
set_option maxRecDepth 100000 in
theorem BB.lt {w : World} {g : Nat} {l : List Nat} (h : BB w g l) : g < w.heap.size := by
  obtain ⟨⟨cs, mk, h, _⟩, _⟩ := h
  rcases Nat.lt_or_ge g w.heap.size with hlt | hge
  · exact hlt
  · rw [Array.getElem?_eq_none hge] at h; cases h
set_option maxRecDepth 100000 in
theorem BB.cell {w : World} {g : Nat} {l : List Nat} (h : BB w g l) {j : Nat} (hj : j < l.length) : w.cell? ⟨g, j, none⟩ = some (.int .u8 ((l.getD j 0 : Nat) : Int)) := by
  obtain ⟨⟨cs, mk, h, _, hc⟩, _⟩ := h
  simp only [World.cell?, h]
  simpa using hc j hj
set_option maxRecDepth 100000 in
theorem BB.frozen {w : World} {g : Nat} {l : List Nat} (h : BB w g l) {j : Nat} (hj : j < l.length) : w.frozen? ⟨g, j, none⟩ = false := by
  obtain ⟨⟨cs, mk, h, hm, _⟩, _⟩ := h
  simp [World.frozen?, h]
  omega
set_option maxRecDepth 100000 in
theorem BB.keep {w w' : World} {g : Nat} {l : List Nat} {S : Nat → Prop} (h : BB w g l) (hf : Fr w w' S) (hg : ¬ S g) : BB w' g l := by
  have hlt := h.lt
  obtain ⟨⟨cs, mk, h, hm⟩, h2⟩ := h
  exact ⟨⟨cs, mk, (hf.block g hlt hg).trans h, hm⟩, h2⟩
set_option maxRecDepth 100000 in
theorem BB.set_ {w : World} {g : Nat} {l : List Nat} (h : BB w g l) {j y : Nat} (hj : j < l.length) (hy : y < 256) : BB (w.setCell ⟨g, j, none⟩ (.int .u8 (y : Int))) g (l.set j y) := by
  obtain ⟨⟨cs, mk, h, hm, hc⟩, h2⟩ := h
  refine ⟨⟨cs.setIfInBounds j (.int .u8 (y : Int)), mk, ?_, by simpa using hm, fun i hi => ?_⟩, fun x hx => ?_⟩
  · simp [World.setCell, Array.getElem?_modify, h]
  · simp only [List.length_set] at hi
    by_cases hij : i = j
    · subst hij
      have hs : i < cs.size := by
        have := hc i hi
        rcases Nat.lt_or_ge i cs.size with h | h
        · exact h
        · rw [Array.getElem?_eq_none h] at this; cases this
      simp [hs, hi]
    · rw [Array.getElem?_setIfInBounds_ne (fun e => hij e.symm), hc i hi]
      simp [List.getD_eq_getElem?_getD, List.getElem?_set_ne (fun e => hij e.symm)]
  · rcases List.mem_or_eq_of_mem_set hx with hx | hx
    · exact h2 x hx
    · rw [hx]; exact hy
set_option maxRecDepth 100000 in
theorem BB.rb {w : World} {g : Nat} {l : List Nat} {T : Nat → Prop} (h : BB w g l) (hT : T g) : RB w T (some ⟨g, 0, none⟩) l.length l :=
  ⟨rfl, h.2, fun _ => ⟨_, rfl, h.lt, hT, fun j hj => by rw [add_head]; exact h.cell hj⟩⟩
set_option maxRecDepth 100000 in
theorem conv_bytes (w : World) (s : ByteArray) : ∃ c w', (convert 9 57 (.string s)).run Try.prog w = .ok (.slice (some ⟨w.heap.size, 0, none⟩) s.size c) w' ∧ Below w.heap.size w w' ∧ w'.heap.size = w.heap.size + 1 ∧ BB w' w.heap.size (sb s) := by
  refine ⟨_, _, Lib.run_convert_string_bytes w 9 57 5 s Try.underlying9 Try.underlying57 Try.underlying5, ⟨rfl, rfl, rfl, ?_, fun k hk => Lib.bytesWorld_at_old w 5 s k hk⟩, Lib.bytesWorld_size w 5 s, ⟨_, _, Lib.bytesWorld_at_new w 5 s, ?_, fun j hj => ?_⟩, sb_lt s⟩
  · rw [Lib.bytesWorld_size]; omega
  · rw [sb_len]
    simp [Lib.bytesCells]
  · rw [sb_len] at hj
    simp [Lib.bytesCells, Array.getElem?_append, sb, hj]

set_option maxRecDepth 100000 in
theorem Rd.alloc {w : World} {S : Nat → Prop} {p : Option Nat} {ok : Bool} {l : List Nat} (h : Rd w S p ok l) (o : Obj) : Rd (w.alloc o) (fun b => S b ∧ b < w.heap.size) p ok l :=
  Rd.keep (Rd.up h) (T := No) ((Fr.refl w No).alloc o) fun _ _ hn => hn
end Go.Proofs.Ytiilhnedflmgoaa
