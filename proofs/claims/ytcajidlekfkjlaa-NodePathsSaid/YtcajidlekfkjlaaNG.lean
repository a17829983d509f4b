/-
STAGE 8: numbers.
-/
import Derived.Test.YtcajidlekfkjlaaNF
import Derived.Test.YtcajidlekfkjlaaNums
namespace Go.Proofs.Ytcajidlekfkjlaa
open Go.RowKit

/-- a new row of numbers is answered -/
def NewN (w : World) (l : List Nat) (e : Ending) (w' : World) : Prop := ∃ v, e = .returned v ∧ OwN w' (fun b => w.heap.size ≤ b) v l.length l ∧ Below w.heap.size w w'
set_option maxRecDepth 100000 in
theorem NewN.mk {w w' : World} {v : Value} {n : Nat} {l l' : List Nat} (h : OwN w' (fun b => w.heap.size ≤ b) v n l') (hb : Below w.heap.size w w') (e : l' = l) : NewN w l (.returned v) w' := by
  subst e
  exact ⟨v, rfl, by rw [h.len]; exact h, hb⟩
def nos (l : List IV) : List Nat := l.map (·.t)
set_option maxRecDepth 100000 in
theorem nos_take {l : List IV} {k : Nat} {x : IV} (h : l[k]? = some x) : (nos l).take (k + 1) = (nos l).take k ++ [x.t] := by
  have hl : k < l.length := by
    rcases Nat.lt_or_ge k l.length with h' | h'
    · exact h'
    · rw [List.getElem?_eq_none h'] at h; cases h
  have e : l[k] = x := by rw [List.getElem?_eq_getElem hl] at h; injection h
  unfold nos
  rw [List.take_succ_eq_append_getElem (by simpa using hl)]
  simp [e]
set_option maxHeartbeats 2000000 in
set_option maxRecDepth 100000 in
theorem numbers_any (A : Option Addr) (n c : Nat) (l : List IV) (w : World) (S : Nat → Prop) (h : IVR w S A n l) (hn : n ≤ 1000000) :
    Calls Try.prog 25 #[.slice A n c] w (NewN w (nos l)) := by
  have HR := Lib.hid h
  have HLEN := Lib.hid h.1
  clear h
  go_enter Try.func25, Try.ntmps25
  go_wp2_with fail
  go_loopw [3, 8] (fun v q wr => ∃ k : Nat, q = .int .i64 (k : Int) ∧ k ≤ n ∧ OwN wr (fun b => w.heap.size ≤ b) v k ((nos l).take k) ∧ Below w.heap.size w wr) (fun _ q _ => n - (intOf q).toNat)
  case atStart => exact ⟨0, rfl, Nat.zero_le _, OwN.nil_ _ _, Below.refl _ _⟩
  case round =>
    obtain ⟨k, rfl, hk, how, hb⟩ := hrel
    have HOW := Lib.hid how
    have HB := Lib.hid hb
    clear how hb
    by_cases hlt : k < n
    · have hws : IntKind.i64.wrap ((k : Int) + 1) = ((k + 1 : Nat) : Int) := by rw [IntWalk.i64_in _ (by omega)]; omega
      obtain ⟨g, o, x, hA, hgl, _, hx, hxi, c0, c1, c2, c3, c4⟩ := (HR.out.keep (Fr.of_below HB.out No) fun _ _ hn => hn).at_ hlt
      subst hA
      obtain ⟨C2, hC2⟩ : ∃ C, C = Obj.cells #[.int .u32 (x.t : Int), .int .i64 x.p.k, .int .u64 (x.p.s : Int), .int .u32 (x.p.x : Int), .slice x.p.A x.p.n x.p.c] 54 := ⟨_, rfl⟩
      obtain ⟨C3, hC3⟩ : ∃ C, C = Obj.cells #[.int .u32 (x.t : Int)] 23 := ⟨_, rfl⟩
      have hb3 : Below wr.heap.size wr ((wr.alloc C2).alloc C3) := ((Below.refl _ wr).alloc (Nat.le_refl _) C2).alloc (by simp) C3
      have hbw : Below w.heap.size w ((wr.alloc C2).alloc C3) := HB.out.trans (hb3.mono HB.out.size)
      have how3 := HOW.out.keep (Fr.of_below hb3 No) (fun _ _ hn => hn)
      have one3 : NR ((wr.alloc C2).alloc C3) All (some ⟨wr.heap.size + 1, 0, none⟩) 1 [x.t] := by
        rw [hC3]; have := one_rbN (wr.alloc C2) x.t hxi.t All trivial; rwa [World.size_alloc] at this
      rw [hC2, hC3] at how3 one3 hbw
      have HOW3 := Lib.hid how3
      have HONE := Lib.hid one3
      have HBW := Lib.hid hbw
      have HNB : Hid (k + 1 ≤ 35184372087808) := Lib.hid (by omega)
      have HX := Lib.hid hx
      have HLT := Lib.hid hlt
      have hsz := HB.out.size
      have HSZ := Lib.hid hsz
      clear how3 one3 hbw hb3 hC2 hC3 hxi hx hsz
      go_wp2_with (at_builtin; go_must (refine wpList_appN rfl (.tmp 12) (.tmp 15) rfl _ k _ rfl HOW3.out All _ 1 1 _ rfl HONE.out HNB.out ?_); intro v' w4 hown hgrow; have HO4 := Lib.hid (hown.mono (T := fun b => w.heap.size ≤ b) (fun b _ hb => hb.elim id fun hb => by have := HSZ.out; simp at hb; omega)); have HB4 := Lib.hid (HBW.out.grown hgrow HBW.out.size fun q hq => HOW3.out.2.2 q hq); clear hown hgrow)
      go_roundw
      case rel => exact ⟨k + 1, by go_num, by have := HLT.out; omega, by rw [nos_take HX.out]; exact HO4.out, HB4.out⟩
      case measure => simp [intOf]; have := HLT.out; omega
    · obtain rfl : k = n := by omega
      go_wp2_with fail
      go_ret
      exact NewN.mk HOW.out HB.out (List.take_of_length_le (by simp [nos, HLEN.out]))
end Go.Proofs.Ytcajidlekfkjlaa
