/-
  THE WALK OF SumXors where the first is no longer than the second: of two texts of one length xored byte by byte the sum is both sums xored, and that of as many noughts.
-/
import Derived.Test.YtdmfkmaelebogaaSumXorsStep
namespace Go.Proofs.Ytdmfkmaelebogaa.sumXors
open Go.RowKit

set_option maxHeartbeats 20000000 in
theorem walk_le (A : Option Addr) (na ca : Nat) (la : List Nat) (B : Option Addr) (nb cb : Nat) (lb : List Nat) (w : World) (ha : In w A na ca la) (hb : In w B nb cb lb) (hc : ¬ nb < na) :
    Calls Try.prog 5 #[.slice A na ca, .slice B nb cb] w fun e w' => e = .returned (.bool true) ∧ Below w.heap.size w w' := by
  have hna : na ≤ 140737488351232 := ha.2.2.1
  have hnb : nb ≤ 140737488351232 := hb.2.2.1
  have hca : na ≤ ca := ha.2.1
  have hcb : nb ≤ cb := hb.2.1
  have HA := Lib.hid ha.1
  have HB := Lib.hid hb.1
  obtain ⟨i0, hi, hz0, hz1, hz2⟩ := info_parts info5
  have HI := Lib.hid hi
  have HZ0 := Lib.hid hz0
  have HZ1 := Lib.hid hz1
  have HZ2 := Lib.hid hz2
  clear ha hb hi hz0 hz1 hz2
  go_enter Try.func5, Try.ntmps5
  go_wp2
  go_loopw [6, 7] (fun v i wr => ∃ k : Nat, k ≤ na ∧ i = .int .i64 k ∧ wr.ownsRow w.heap.size 5 1 v k (u8s ((zs la lb).take k)) ∧ Below w.heap.size w wr) (fun _ i _ => na - (intOf i).toNat)
  case atStart => exact ⟨0, Nat.zero_le _, rfl, World.ownsRow_nil _ _ _ _, Below.refl _ _⟩
  case round =>
    obtain ⟨k, hk, rfl, hown, hbl⟩ := hrel
    have HO := Lib.hid hown
    clear hown
    by_cases hlt : k < na
    · obtain ⟨ad, rfl, hx, hcx⟩ := (HA.out.below hbl).at_ (k := k) (by omega)
      obtain ⟨bd, rfl, hy, hcy⟩ := (HB.out.below hbl).at_ (k := k) (by omega)
      obtain ⟨x, hxe⟩ : ∃ x, x = la.getD k 0 := ⟨_, rfl⟩
      obtain ⟨y, hye⟩ : ∃ y, y = lb.getD k 0 := ⟨_, rfl⟩
      rw [← hxe] at hx hcx
      rw [← hye] at hy hcy
      have HXE := Lib.hid hxe
      have HYE := Lib.hid hye
      clear hxe hye
      have hxor := u8_xor_nat x y hx hy
      have hsz := hbl.size
      have hk1 : k < na := by omega
      have hk2 : k < nb := by omega
      go_wp2
      go_region_law ((refine step_own rfl (.tmp 18) (.tmp 28) 23 rfl w.heap.size 5 i0 (.int .u8 0) 1 1 Try.underlying23 HI.out HZ0.out HZ1.out HZ2.out rfl (by decide) _ k (u8s ((zs la lb).take k)) rfl (by exact (HO.out.alloc _).drew) ⟨wr.heap.size, 0, none⟩ 1 1 [.int .u8 ((x ^^^ y : Nat) : Int)] rfl rfl (by intro j u hj; match j, hj with | 0, hj => simp at hj; subst hj; simp [Addr.add]) (by intro u hu; simp at hu; subst hu; rfl) (by simp only [maxLen]; omega) (by omega) (by simp; omega) ?_; intro v' w1 hown' hgrow))
      all_goals
        rw [HXE.out, HYE.out] at hown'
        have hlA := HA.out.len
        have hlB := HB.out.len
        have HN := Lib.hid (row_step (by omega) (by omega) hown')
        have hb2 : Below w.heap.size w w1 := ((hbl.alloc hsz _).drew).grown hgrow (by simp; omega) (fun g hg => (HO.out.lt g hg).1)
        clear hown' hgrow hlA hlB hcx hcy
        go_wp2
        go_roundw
        case rel => exact ⟨k + 1, by omega, by go_num, HN.out, hb2⟩
        case measure => simp [intOf]; omega
    · obtain rfl : k = na := by omega
      clear hlt HI HZ0 HZ1 HZ2
      have hlenA := HA.out.len
      have hlenB := HB.out.len
      have hzl : (zs la lb).length = k := by rw [zs_len]; omega
      obtain ⟨C, cc, rfl, hcc, hrC⟩ := RB.of_own HO.out (fun x hx => zs_lt HA.out.lt HB.out.lt x (List.mem_of_mem_take hx))
      rw [List.take_of_length_le (by omega)] at hrC
      have hrA := (HA.out.below hbl).take (k := k) (by omega)
      have hrB := (HB.out.below hbl).take (k := k) (by omega)
      have hrZ : RB (wr.alloc (.cells (u8s (List.replicate k 0)).toArray 5)) (some ⟨wr.heap.size, 0, none⟩) k (List.replicate k 0) :=
        RB.of_blk (Blk.new wr 5 _) (by intro x hx; rw [List.eq_of_mem_replicate hx]; omega) (by simp)
      have hsum := Crc.more_xors (la.take k) (lb.take k) (by simp; omega)
      have e1 : List.zipWith (· ^^^ ·) (la.take k) (lb.take k) = zs la lb := by
        have := List.take_zipWith (f := fun x y : Nat => x ^^^ y) (l := la) (l' := lb) (i := k)
        unfold zs at hzl ⊢
        rw [← this, List.take_of_length_le (by omega)]
      have e2 : (la.take k).length = k := by simp; omega
      rw [e1, e2] at hsum
      obtain ⟨p, hp⟩ : ∃ p, p = Crc.more 0 (la.take k) := ⟨_, rfl⟩
      obtain ⟨q, hq⟩ : ∃ q, q = Crc.more 0 (lb.take k) := ⟨_, rfl⟩
      obtain ⟨z, hz⟩ : ∃ z, z = Crc.more 0 (List.replicate k 0) := ⟨_, rfl⟩
      have hpl : p < 4294967296 := by rw [hp]; exact Crc.more_lt (by decide) hrA.lt
      have hql : q < 4294967296 := by rw [hq]; exact Crc.more_lt (by decide) hrB.lt
      have hzl2 : z < 4294967296 := by rw [hz]; exact Crc.more_lt (by decide) hrZ.lt
      rw [← hp, ← hq, ← hz] at hsum
      have hk63 : k ≤ maxLen := by simp only [maxLen]; omega
      have cA : ∀ W, RB W A k (la.take k) → Calls Try.prog 10 #[.slice A k ca] W fun e w' => e = .returned (.int .u32 (p : Int)) ∧ W = w' := fun W h => by rw [hp]; exact sof_any A k ca _ W hk63 h
      have cB : ∀ W, RB W B k (lb.take k) → Calls Try.prog 10 #[.slice B k cb] W fun e w' => e = .returned (.int .u32 (q : Int)) ∧ W = w' := fun W h => by rw [hq]; exact sof_any B k cb _ W hk63 h
      have cZ : ∀ W, RB W (some ⟨wr.heap.size, 0, none⟩) k (List.replicate k 0) → Calls Try.prog 10 #[.slice (some ⟨wr.heap.size, 0, none⟩) k k] W fun e w' => e = .returned (.int .u32 (z : Int)) ∧ W = w' := fun W h => by rw [hz]; exact sof_any _ k k _ W hk63 h
      have cC : ∀ W, RB W C k (zs la lb) → Calls Try.prog 10 #[.slice C k cc] W fun e w' => e = .returned (.int .u32 ((p ^^^ q ^^^ z : Nat) : Int)) ∧ W = w' := fun W h => by rw [← hsum]; exact sof_any C k cc _ W hk63 h
      have hx1 := xor_nat p q hpl hql
      have hx2 := xor_nat (p ^^^ q) z (Crc.xor_lt hpl hql) hzl2
      have hmk := run_mk k (by omega)
      have hbl1 : Below w.heap.size w wr.drew := hbl.drew
      have KA := Lib.hid cA
      have KB := Lib.hid cB
      have KZ := Lib.hid cZ
      have KC := Lib.hid cC
      have RA := Lib.hid hrA
      have RBB := Lib.hid hrB
      have RC := Lib.hid hrC
      have RZ := Lib.hid hrZ
      have hsz := hbl.size
      clear cA cB cZ cC hrA hrB hrC hrZ hp hq hz hsum e1 e2 hzl hlenA hlenB HA HB hpl hql hzl2 hk63 HO
      go_wp2_with fail
      go_region_with (first
        | (go_at_call_of 10 (Value.slice C k cc); refine (KC.out _ ?_).mono ?_; (first | exact RC.out.drew | exact (RC.out.alloc _).drew); rintro e w' ⟨rfl, rfl⟩)
        | (go_at_call_of 10 (Value.slice A k ca); refine (KA.out _ ?_).mono ?_; (first | exact RA.out.drew | exact (RA.out.alloc _).drew); rintro e w' ⟨rfl, rfl⟩)
        | (go_at_call_of 10 (Value.slice B k cb); refine (KB.out _ ?_).mono ?_; (first | exact RBB.out.drew | exact (RBB.out.alloc _).drew); rintro e w' ⟨rfl, rfl⟩)
        | (go_at_call_of 10 (Value.slice (some ⟨wr.heap.size, 0, none⟩) k k); refine (KZ.out _ ?_).mono ?_; exact RZ.out.drew; rintro e w' ⟨rfl, rfl⟩)
        | (go_at_call 15; refine (alive_any _).mono ?_; rintro e w4 ⟨rfl, hb4⟩))
      all_goals
        go_wp2
        go_ret
        exact ⟨rfl, ((hbl.alloc hsz _).drew).trans (hb4.mono (by simp; omega))⟩
end Go.Proofs.Ytdmfkmaelebogaa.sumXors
