/-
  THE WALKS OF THE READER's OTHER CALLS: Int, Raw, Text, and the fixed numbers.
-/
import Derived.Test.YtdhgbkibbileiaaGreatWalkG
namespace Go.Proofs.YtdhgbkibbileiaaGreat
open Go.RowKit

set_option maxRecDepth 100000 in
theorem run_conv (T : Nat → Prop) (A : Option Addr) (n c : Nat) (l : List Nat) (w : World) (h : RB w T A n l) :
    (convert 24 9 (.slice A n c)).run Tryz.prog w = .ok (.string (strOf l)) w := by
  obtain ⟨hl, hx, h3⟩ := h
  rw [run_convert_bytes_string w 24 9 5 A n c Tryz.underlying24 Tryz.underlying5 Tryz.underlying9]
  rcases A with _ | ad
  · have hn : n = 0 := by
      rcases Nat.eq_zero_or_pos n with h0 | h0
      · exact h0
      · obtain ⟨_, e, _⟩ := h3 h0
        cases e
    subst hn
    have : l = [] := List.eq_nil_of_length_eq_zero hl
    subst this
    simp [Conv.bytesToString, strOf]
    rfl
  · have hload : (loadCells ad n).run Tryz.prog w = .ok ((l.map fun x : Nat => (x : Int)).map (Value.int .u8)).toArray w := by
      have := run_loadCells_list (P := Tryz.prog) w ad ((l.map fun x : Nat => (x : Int)).map (Value.int .u8)) (fun j v hj => by
        have hjl : j < l.length := by
          rcases Nat.lt_or_ge j l.length with h | h
          · exact h
          · simp [List.getElem?_eq_none h] at hj
        obtain ⟨ad', e, _, _, hc⟩ := h3 (by omega)
        cases e
        rw [hc j (by omega)]
        simp [List.getElem?_eq_getElem hjl] at hj
        subst hj
        simp [hjl])
      simpa [hl] using this
    rw [run_bytesToString w ad n c _ hload, foldl_push_bytes]
    simp [strOf, ByteArray.empty, ByteArray.emptyWithCapacity]
    rfl

set_option maxRecDepth 100000 in
theorem ru8_any (w : World) (S : Nat → Prop) (p : Option Nat) (ok : Bool) (l : List Nat) (h : Rd w S p ok l) :
    Calls Tryz.prog 52 #[ptr p] w fun e w' => e = .returned (.int .u8 ((valO ok (fixO l 1) 0 : Nat) : Int)) ∧ Got w S p ok l (fixO l 1) w' := by
  have HC := Lib.hid (readFix8_any w S p ok l h)
  clear h
  go_enter Tryz.func52, Tryz.ntmps52
  go_wp2_with (go_at_call 99; refine HC.out.mono ?_; rintro e w' ⟨rfl, hw⟩; have HW := Lib.hid hw; clear hw)
  go_ret
  exact ⟨rfl, HW.out⟩
set_option maxRecDepth 100000 in
theorem ru16_any (w : World) (S : Nat → Prop) (p : Option Nat) (ok : Bool) (l : List Nat) (h : Rd w S p ok l) :
    Calls Tryz.prog 33 #[ptr p] w fun e w' => e = .returned (.int .u16 ((valO ok (fixO l 2) 0 : Nat) : Int)) ∧ Got w S p ok l (fixO l 2) w' := by
  have HC := Lib.hid (readFix16_any w S p ok l h)
  clear h
  go_enter Tryz.func33, Tryz.ntmps33
  go_wp2_with (go_at_call 51; refine HC.out.mono ?_; rintro e w' ⟨rfl, hw⟩; have HW := Lib.hid hw; clear hw)
  go_ret
  exact ⟨rfl, HW.out⟩
/-- a signed number at the front -/
def intO (l : List Nat) : Option (Int × Nat) := (Cd.front l).map fun x => (Cd.unzz x.1, x.2)
set_option maxRecDepth 100000 in
theorem intO_val (ok : Bool) (l : List Nat) : valO ok (intO l) 0 = Cd.unzz (valO ok (Cd.front l) 0) := by
  unfold intO
  cases ok <;> cases Cd.front l <;> first | rfl | simp [valO, Cd.unzz]
set_option maxRecDepth 100000 in
theorem intO_ok (ok : Bool) (l : List Nat) : okO ok (intO l) = okO ok (Cd.front l) := by
  unfold intO
  cases ok <;> cases Cd.front l <;> rfl
set_option maxRecDepth 100000 in
theorem intO_left (ok : Bool) (l : List Nat) : leftO ok l (intO l) = leftO ok l (Cd.front l) := by
  unfold intO
  cases ok <;> cases Cd.front l <;> rfl
set_option maxRecDepth 100000 in
theorem Got.int {w w' : World} {S : Nat → Prop} {p : Option Nat} {ok : Bool} {l : List Nat} (h : Got w S p ok l (Cd.front l) w') : Got w S p ok l (intO l) w' := by
  unfold Got at h ⊢
  rw [intO_ok, intO_left]
  exact h
set_option maxRecDepth 100000 in
theorem valO_lt (ok : Bool) (l : List Nat) : valO ok (Cd.front l) 0 < 18446744073709551616 := by
  cases ok with
  | false => simp [valO]
  | true =>
    cases h : Cd.front l with
    | none => simp [valO]
    | some q => exact Cd.front_lt h
/-- what Raw answers: a new row -/
def Raws (w : World) (S : Nat → Prop) (p : Option Nat) (ok : Bool) (l : List Nat) (n : Int) (e : Ending) (w' : World) : Prop :=
  ∃ v k, e = .returned v ∧ k = (valO ok (takeO l n) []).length ∧ Ow w' (fun b => w.heap.size ≤ b) v k (valO ok (takeO l n) []) ∧ Got w S p ok l (takeO l n) w'
set_option maxRecDepth 100000 in
theorem Rd.up {w : World} {S : Nat → Prop} {p : Option Nat} {ok : Bool} {l : List Nat} (h : Rd w S p ok l) : Rd w (fun b => S b ∧ b < w.heap.size) p ok l := Rd.mono h fun _ hb hs => ⟨hs, hb⟩

set_option maxRecDepth 100000 in
theorem rraw_any (w : World) (S : Nat → Prop) (p : Option Nat) (ok : Bool) (l : List Nat) (n : Int) (h1 : -9223372036854775808 ≤ n) (h2 : n ≤ 9223372036854775807) (h : Rd w S p ok l) :
    Calls Tryz.prog 136 #[ptr p, .int .i64 n] w (Raws w S p ok l n) := by
  have HT := Lib.hid (take_any w S p ok l n h1 h2 h)
  clear h
  go_enter Tryz.func136, Tryz.ntmps136
  go_wp2_with fail
  refine HT.out.mono ?_
  rintro e w1 ⟨A, m, c, rfl, hr, hm, hd, hf⟩
  have hsz := hf.size
  have HC := Lib.hid (clone_any w1 _ A m c _ hr hm)
  have HD := Lib.hid (Rd.up hd)
  have HF := Lib.hid hf
  clear hr hd hf
  go_wp2_with fail
  refine HC.out.mono ?_
  rintro e w2 ⟨v, rfl, ho, hb⟩
  have HO := Lib.hid ho
  have HB := Lib.hid hb
  clear ho hb
  go_wp2
  go_ret
  have hfb := Fr.of_below HB.out (fun b => w1.heap.size ≤ b)
  refine ⟨v, _, rfl, rfl, HO.out.mono fun b _ hb => by omega, (Rd.keep HD.out hfb fun b hb => by omega).mono fun b _ hb => hb.1, HF.out.trans hfb fun b hb => Or.inr (by omega)⟩
end Go.Proofs.YtdhgbkibbileiaaGreat
