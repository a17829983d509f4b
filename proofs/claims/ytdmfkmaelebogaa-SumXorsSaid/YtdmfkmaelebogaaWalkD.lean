/-
  THE WALK OF Seal: what is sealed is b, and its sum behind it in four bytes, in one block of the call's own.
-/
import Derived.Test.YtdmfkmaelebogaaWalkC
import Derived.Laws.CopyOwn
namespace Go.Proofs.Ytdmfkmaelebogaa
open Go.RowKit

theorem made_noughts (n : Nat) : madeCells #[Value.int .u8 0] n = (u8s (List.replicate n 0)).toArray := by
  apply Array.ext
  · simp [madeCells, u8s]
  · intro i h1 h2
    simp [madeCells, u8s]
    rw [Nat.mod_one]
    rfl

theorem run_mk (n : Nat) (hn : n ≤ 140737488355328) (u : World) : (Instr.makeSlice 23 (.int .i64 (n : Int)) (.int .i64 (n : Int))).run Try.prog u =
    .ok (.slice (some ⟨u.heap.size, 0, none⟩) n n) (u.alloc (.cells (u8s (List.replicate n 0)).toArray 5)) := by
  obtain ⟨i0, hi, hz0, hz1, hz2⟩ := info_parts info5
  have h := run_make (P := Try.prog) u 23 5 i0 (.int .u8 0) Try.underlying23 hi hz0 .i64 .i64 (n : Int) (n : Int) (by omega) (Int.le_refl _) (by rw [hz2]; omega) (by omega)
  simpa [hz1, Value.cells, made_noughts] using h

/-- behind k of the four bytes -/
def part (l : List Nat) (s k : Nat) : List Nat := l ++ ((Crc.le4 s).take k ++ List.replicate (4 - k) 0)

theorem u8s_set (l : List Nat) (i x : Nat) : (u8s l).toArray.setIfInBounds i (.int .u8 (x : Int)) = (u8s (l.set i x)).toArray := by
  simp [u8s, List.map_set]
theorem part_set (l : List Nat) (s k : Nat) (hk : k < 4) : (part l s k).set (l.length + k) (s / 2 ^ (8 * k) % 256) = part l s (k + 1) := by
  unfold part
  rw [List.set_append_right _ _ (by omega)]
  congr 1
  rw [show l.length + k - l.length = k by omega]
  match k, hk with
  | 0, _ => simp [Crc.le4, List.replicate]
  | 1, _ => simp [Crc.le4, List.replicate]
  | 2, _ => simp [Crc.le4, List.replicate]
  | 3, _ => simp [Crc.le4]
theorem part_four (l : List Nat) (s : Nat) : part l s 4 = l ++ Crc.le4 s := by simp [part, Crc.le4]
theorem part_step {wr : World} {g n k s : Nat} {l : List Nat} (hl : l.length = n) (hk : k < 4) (h : Blk wr g 5 (u8s (part l s k)).toArray) :
    Blk (wr.setCell ⟨g, n + k, none⟩ (.int .u8 ((s : Int) / 2 ^ (8 * k) % 256))) g 5 (u8s (part l s (k + 1))).toArray := by
  have e : ((s : Int) / 2 ^ (8 * k) % 256) = ((s / 2 ^ (8 * k) % 256 : Nat) : Int) := by simp
  have h2 := h.set_ (n + k) (.int .u8 ((s : Int) / 2 ^ (8 * k) % 256))
  rw [e, u8s_set, ← hl, part_set l s k hk] at h2
  rw [e, ← hl]
  exact h2

theorem size5 : (Try.prog.info? 5).map (·.size) = some 1 := by kernel_rfl
theorem src_ok {w : World} {A : Option Addr} {n : Nat} {l : List Nat} (hr : RB w A n l) (a : Addr) :
    0 < (u8s l).length → some a = some a ∧ ∃ ad, A = some ad ∧ ∀ j v, (u8s l)[j]? = some v → w.cell? (ad.add j) = some v := by
  intro hp
  rw [u8s_length, hr.len] at hp
  obtain ⟨ad, rfl, _⟩ := hr.2.2 hp
  exact ⟨rfl, ad, rfl, hr.cells⟩

theorem seal_any (A : Option Addr) (n c : Nat) (l : List Nat) (w : World) (h : In w A n c l) :
    Calls Try.prog 16 #[.slice A n c] w fun e w' => e = .returned (.slice (some ⟨w.heap.size, 0, none⟩) (n + 4 : Nat) (n + 4 : Nat)) ∧ Below w.heap.size w w' ∧ Blk w' w.heap.size 5 (u8s (Crc.seal_ l)).toArray := by
  obtain ⟨hr, hc, hn, h0⟩ := h
  have hmk := run_mk (n + 4) (by omega)
  have ec : ((n + 4 : Nat) : Int) = (n : Int) + 4 := by omega
  rw [ec] at hmk
  have HN : Hid ((u8s l).length = Nat.min n (n + 4)) := by
    show (u8s l).length = min n (n + 4)
    rw [u8s_length, hr.len]; omega
  have HF : Hid (0 + (u8s l).length ≤ (u8s (List.replicate (n + 4) 0)).length) := by
    show 0 + (u8s l).length ≤ (u8s (List.replicate (n + 4) 0)).length
    rw [u8s_length, u8s_length, hr.len]; simp
  have HB := Lib.hid hr
  clear hr h0 ec
  have hs := Crc.more_lt (s := 0) (l := l) (by decide) HB.out.lt
  obtain ⟨s, hse⟩ : ∃ s, s = Crc.more 0 l := ⟨_, rfl⟩
  rw [← hse] at hs
  have HS := Lib.hid hse
  clear hse
  go_enter Try.func16, Try.ntmps16
  go_wp2_with ((with_reducible show wpList _ _ _ ((⟨some 12, _, _, _, _, _⟩ : Oper) :: _) _ _); refine wpList_copy_splice (o := ⟨some 12, _, _, _, _, _⟩) rfl (.tmp 10) (.tmp 11) 23 23 rfl 5 Try.underlying23 size5 _ _ _ _ _ _ rfl rfl w.heap.size 0 (u8s (List.replicate (n + 4) 0)) 5 (Blk.new w 5 _) (u8s l) HN.out (src_ok (HB.out.alloc _) _) HF.out (u8s_one l) w.heap.size w ((Below.refl _ _).alloc (Nat.le_refl _) _) (Nat.le_refl _) ?_; intro w1 hg1 hb1)
  have H1 : Hid (Blk w1 w.heap.size 5 (u8s (part l s 0)).toArray) := by
    have e : splice (u8s (List.replicate (n + 4) 0)) 0 (u8s l) = u8s (part l s 0) := by
      have hl := HB.out.len
      simp [splice, part, u8s, hl]
    have h := hg1.out
    rw [e] at h
    exact h
  have hrb := HB.out.below hb1
  refine (sof_any A n c l w1 (by simp only [maxLen]; omega) hrb).mono ?_
  rintro e w2 ⟨rfl, rfl⟩
  rw [← HS.out]
  clear hrb hg1
  go_wp2
  go_loopw [15] (fun i wr => ∃ k : Nat, k ≤ 4 ∧ i = .int .i64 k ∧ Blk wr w.heap.size 5 (u8s (part l s k)).toArray ∧ Below w.heap.size w wr) (fun i _ => 4 - (intOf i).toNat)
  case atStart => exact ⟨0, by omega, rfl, H1.out, hb1⟩
  case round =>
    clear H1 hb1
    obtain ⟨k, hk, rfl, hblk, hb⟩ := hrel
    have HK := Lib.hid hblk
    have hlen : (part l s k).length = n + 4 := by
      have hl := HB.out.len
      simp [part, hl, Crc.le4]; omega
    by_cases hlt : k < 4
    · have hcell : wr.cell? ⟨w.heap.size, n + k, none⟩ = some (.int .u8 (((part l s k).getD (n + k) 0 : Nat) : Int)) := by
        rw [hblk.cell]
        simp [u8s, show n + k < (part l s k).length by omega]
      have hfz : wr.frozen? ⟨w.heap.size, n + k, none⟩ = false := hblk.frozen _
      obtain ⟨y, hy⟩ : ∃ y, y = (part l s k).getD (n + k) 0 := ⟨_, rfl⟩
      rw [← hy] at hcell
      clear hblk hlen hy
      go_wp2
      go_roundw
      case rel => exact ⟨k + 1, by omega, by go_num, part_step HB.out.len hlt HK.out, hb.setCell (Nat.le_refl _) _⟩
      case measure => simp [intOf]; omega
    · clear hblk hlen
      go_wp2
      go_ret
      obtain rfl : k = 4 := by omega
      refine ⟨rfl, hb, ?_⟩
      have h := HK.out
      rw [part_four, HS.out] at h
      exact h
end Go.Proofs.Ytdmfkmaelebogaa
