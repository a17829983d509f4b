/-
  THE WALKS OF Open: what is too short, or whose last four bytes are not the sum of the rest, is opened to none; else the rest comes back in new memory.
-/
import Derived.Test.YtdmfkmaelebogaaWalkD
import Derived.BigQuiet
import Derived.Deep.QuietTactic
namespace Go.Proofs.Ytdmfkmaelebogaa
open Go.RowKit

theorem open_short (A : Option Addr) (n c : Nat) (w : World) (h : n < 4) :
    Calls Try.prog 17 #[.slice A n c] w fun e w' => e = .returned (.tuple #[.slice none 0 0, .bool false]) ∧ w = w' := by
  go_enter Try.func17, Try.ntmps17
  go_wp2
  go_ret2
  exact ⟨rfl, rfl⟩

theorem RB.tail {w : World} {A : Option Addr} {n c : Nat} {l : List Nat} (h : RB w A n l) (h4 : 4 ≤ n) (hc : n ≤ c) :
    RB w (A.map fun x => x.add (n - 4)) (n - (n - 4)) (l.drop (n - 4)) := by
  have := h.drop (k := n - 4) (c := c) (by omega) hc
  rwa [if_neg (by omega)] at this

theorem below_draws {B : Nat} {a w : World} (h : Below B a w) (k : Nat) : Below B a (w.drewN k) := ⟨h.os, h.tape, h.output, h.size, h.block⟩

theorem blk_q (w : World) (q : Nat) (C : Array Value) : Blk ((w.drewN q).alloc (.cells C 5)) w.heap.size 5 C := Blk.new (w.drewN q) 5 C
theorem below_q (w : World) (q : Nat) (o : Obj) : Below w.heap.size w ((w.drewN q).alloc o) := (below_draws (Below.refl _ _) q).alloc (Nat.le_refl _) o
theorem rb_q {w : World} {A : Option Addr} {n : Nat} {l : List Nat} (h : RB w A n l) (q : Nat) (o : Obj) : RB ((w.drewN q).alloc o) A n l := (h.drewN q).alloc o

theorem open_no (A : Option Addr) (n c : Nat) (l : List Nat) (w : World) (h4 : 4 ≤ n) (hc : n ≤ c) (hn : n ≤ 140737488355328) (h : RB w A n l) (hbad : ¬ Crc.Good l) :
    Calls Try.prog 17 #[.slice A n c] w fun e w' => e = .returned (.tuple #[.slice none 0 0, .bool false]) ∧ Below w.heap.size w w' := by
  have hlen := h.len
  have hne : ((Crc.low (l.drop (n - 4)) : Int) != (Crc.more 0 (l.take (n - 4)) : Int)) = true := by
    rw [bne_iff_ne]
    intro e
    refine hbad ⟨by omega, ?_⟩
    rw [hlen]
    omega
  have HT := Lib.hid (h.tail h4 hc)
  have HK := Lib.hid (h.take (k := n - 4) (by omega))
  have HE : Hid (n - (n - 4) = 4) := (show n - (n - 4) = 4 by omega)
  clear h hbad hlen
  obtain ⟨x, hx⟩ : ∃ x, x = Crc.low (l.drop (n - 4)) := ⟨_, rfl⟩
  obtain ⟨y, hy⟩ : ∃ y, y = Crc.more 0 (l.take (n - 4)) := ⟨_, rfl⟩
  rw [← hx, ← hy] at hne
  have HX := Lib.hid hx
  have HY := Lib.hid hy
  clear hx hy
  go_enter Try.func17, Try.ntmps17
  go_wp2
  go_quiet (fail)
  go_wp2_with fail
  refine (low_any _ _ _ _ _ HE.out (HT.out.drewN _)).mono ?_
  rintro e w1 ⟨rfl, rfl⟩
  rw [← HX.out]
  go_wp2_with fail
  refine (sof_any _ _ _ _ _ (by simp only [maxLen]; omega) (HK.out.drewN _)).mono ?_
  rintro e w1 ⟨rfl, rfl⟩
  rw [← HY.out]
  go_wp2
  go_ret2
  exact ⟨rfl, below_draws (Below.refl _ _) _⟩

theorem open_yes (A : Option Addr) (n c : Nat) (l : List Nat) (w : World) (h4 : 4 ≤ n) (hc : n ≤ c) (hn : n ≤ 140737488355328) (h : RB w A n l) (hgood : Crc.Good l) :
    Calls Try.prog 17 #[.slice A n c] w fun e w' => ∃ A' c', e = .returned (.tuple #[.slice A' (n - 4) c', .bool true]) ∧ n - 4 ≤ c' ∧ Below w.heap.size w w' ∧ RB w' A' (n - 4) (l.take (n - 4)) := by
  have hlen := h.len
  have hne : ((Crc.low (l.drop (n - 4)) : Int) != (Crc.more 0 (l.take (n - 4)) : Int)) = false := by
    have := hgood.2
    rw [hlen] at this
    rw [this]
    simp
  have HT := Lib.hid (h.tail h4 hc)
  have HK := Lib.hid (h.take (k := n - 4) (by omega))
  have HE : Hid (n - (n - 4) = 4) := (show n - (n - 4) = 4 by omega)
  have HL : Hid ((l.take (n - 4)).length = n - 4) := HK.out.len
  clear h hgood hlen
  obtain ⟨x, hx⟩ : ∃ x, x = Crc.low (l.drop (n - 4)) := ⟨_, rfl⟩
  obtain ⟨y, hy⟩ : ∃ y, y = Crc.more 0 (l.take (n - 4)) := ⟨_, rfl⟩
  obtain ⟨t, ht⟩ : ∃ t, t = l.take (n - 4) := ⟨_, rfl⟩
  rw [← hx, ← hy] at hne
  have HX := Lib.hid hx
  have HY := Lib.hid hy
  rw [← ht] at HK HL HY
  rw [← ht]
  clear hx hy ht
  have hmk := run_mk (n - 4) (by omega)
  have HN : Hid ((u8s t).length = Nat.min (n - 4) (n - 4)) := by
    show (u8s t).length = min (n - 4) (n - 4)
    rw [u8s_length, HL.out]; omega
  have HF : Hid (0 + (u8s t).length ≤ (u8s (List.replicate (n - 4) 0)).length) := by
    show 0 + (u8s t).length ≤ (u8s (List.replicate (n - 4) 0)).length
    rw [u8s_length, u8s_length, HL.out]; simp
  go_enter Try.func17, Try.ntmps17
  go_wp2
  go_quiet (fail)
  go_wp2_with fail
  refine (low_any _ _ _ _ _ HE.out (HT.out.drewN _)).mono ?_
  rintro e w1 ⟨rfl, rfl⟩
  rw [← HX.out]
  go_wp2_with fail
  refine (sof_any _ _ _ _ _ (by simp only [maxLen]; omega) (HK.out.drewN _)).mono ?_
  rintro e w1 ⟨rfl, rfl⟩
  rw [← HY.out]
  go_wp2_with ((with_reducible show wpList _ _ _ ((⟨some 30, _, _, _, _, _⟩ : Oper) :: _) _ _); refine wpList_copy_splice (o := ⟨some 30, _, _, _, _, _⟩) rfl (.tmp 28) (.tmp 29) 23 23 rfl 5 Try.underlying23 size5 _ _ _ _ _ _ rfl rfl w.heap.size 0 (u8s (List.replicate (n - 4) 0)) 5 (blk_q w _ _) (u8s t) HN.out (src_ok (rb_q HK.out _ _) _) HF.out (u8s_one t) w.heap.size w (below_q w _ _) (Nat.le_refl _) ?_; intro w1 hg1 hb1)
  go_ret2
  have hb : Blk w1 w.heap.size 5 (u8s t).toArray := by
    have e : splice (u8s (List.replicate (n - 4) 0)) 0 (u8s t) = u8s t := by
      have hl := HL.out
      simp [splice, u8s, hl]
    have h := hg1.out
    rw [e] at h
    exact h
  exact ⟨_, _, rfl, Nat.le_refl _, hb1, RB.of_blk hb HK.out.lt HL.out⟩
end Go.Proofs.Ytdmfkmaelebogaa
