/-
  THE WALKS OF lowestFirst AND Same: the number of four bytes; two slices that read as the same bytes are the same.
-/
import Derived.Test.YtdmfkmaelebogaaWalkA
import Derived.Laws.BytesArg
namespace Go.Proofs.Ytdmfkmaelebogaa
open Go.RowKit

theorem low_lt (l : List Nat) (h : ∀ x ∈ l, x < 256) : Crc.low l < 2 ^ (8 * l.length) := by
  rw [← Crc.val_bitsOf l h, ← Crc.bitsOf_length]
  exact Crc.val_lt _
theorem low_snoc (l : List Nat) (x : Nat) : Crc.low (l ++ [x]) = Crc.low l + x * 2 ^ (8 * l.length) := by
  induction l with
  | nil => simp [Crc.low]
  | cons y l ih =>
    simp only [List.cons_append, Crc.low, ih, List.length_cons]
    rw [Nat.mul_add, show 8 * (l.length + 1) = 8 * l.length + 8 by omega, Nat.pow_add, ← Nat.mul_assoc x, Nat.mul_comm (x * 2 ^ (8 * l.length)) (2 ^ 8)]
    omega
theorem or_low (k r x : Nat) (hk : k < 4) (hr : r < 2 ^ (8 * k)) (hx : x < 256) :
    bits BinOp.or IntKind.u32 (r : Int) ((x : Int) * 2 ^ (8 * k) % 4294967296) = ((r + x * 2 ^ (8 * k) : Nat) : Int) := by
  have hp : 2 ^ (8 * k) ≤ 16777216 := by
    have : (2 : Nat) ^ (8 * k) ≤ 2 ^ 24 := Nat.pow_le_pow_right (by decide) (by omega)
    exact this
  have hm : x * 2 ^ (8 * k) < 4294967296 := by
    have : x * 2 ^ (8 * k) ≤ 255 * 16777216 := Nat.mul_le_mul (by omega) hp
    omega
  have e : ((x : Int) * 2 ^ (8 * k) % 4294967296) = ((x * 2 ^ (8 * k) : Nat) : Int) := by
    have e1 : ((x * 2 ^ (8 * k) : Nat) : Int) = (x : Int) * 2 ^ (8 * k) := by simp
    rw [← e1]
    omega
  rw [e, u32_or_nat r _ (by omega) hm]
  have h := Nat.two_pow_add_eq_or_of_lt hr x
  rw [Nat.or_comm, Nat.mul_comm x, ← h, Nat.add_comm]

theorem low_any (A : Option Addr) (n c : Nat) (l : List Nat) (w : World) (hn : n = 4) (h : RB w A n l) :
    Calls Try.prog 19 #[.slice A n c] w fun e w' => e = .returned (.int .u32 (Crc.low l)) ∧ w = w' := by
  have HN := Lib.hid hn
  have hn4 : n ≤ 4 := by omega
  clear hn
  have HB := Lib.hid h
  clear h
  go_enter Try.func19, Try.ntmps19
  go_wp2
  go_loop [3, 8] (fun t i => ∃ k r : Nat, k ≤ n ∧ i = .int .i64 k ∧ r = Crc.low (l.take k) ∧ t = .int .u32 r) (fun _ i => n - (intOf i).toNat)
  case atStart => exact ⟨0, 0, by omega, rfl, by simp [Crc.low], rfl⟩
  case round =>
    obtain ⟨k, r, hk, rfl, he, rfl⟩ := hrel
    have He := Lib.hid he
    clear he
    by_cases hlt : k < n
    · obtain ⟨ad, rfl, hx, hc⟩ := HB.out.at_ hlt
      obtain ⟨x, hxe⟩ : ∃ x, x = l.getD k 0 := ⟨_, rfl⟩
      rw [← hxe] at hx hc
      have Hx := Lib.hid hxe
      clear hxe
      have hmod : (x : Int) % 4294967296 = x := by omega
      go_wp2
      go_round
      case rel =>
        have hl := HB.out.len
        have hN := HN.out
        have hlk : (l.take k).length = k := by simp; omega
        have hlt2 : r < 2 ^ (8 * k) := by
          have h := low_lt (l.take k) fun y hy => HB.out.lt y (List.mem_of_mem_take hy)
          rw [hlk] at h
          rw [He.out]
          exact h
        have e1 : l.take (k + 1) = l.take k ++ [l.getD k 0] := by
          rw [List.take_succ_eq_append_getElem (by omega)]
          simp [show k < l.length by omega]
        refine ⟨k + 1, r + x * 2 ^ (8 * k), by omega, by go_num, ?_, ?_⟩
        · rw [e1, low_snoc, hlk, ← He.out, ← Hx.out]
        · rw [or_low k r x (by omega) hlt2 hx]
      case measure => simp [intOf]; omega
    · go_wp2
      go_ret
      have hl := HB.out.len
      have hk2 : l.take k = l := List.take_of_length_le (by omega)
      refine ⟨?_, rfl⟩
      rw [He.out, hk2]
      rfl

def strOf (l : List Nat) : ByteArray := ⟨(l.map UInt8.ofNat).toArray⟩
theorem run_conv (A : Option Addr) (n c : Nat) (l : List Nat) (w : World) (h : RB w A n l) :
    (convert 23 9 (.slice A n c)).run Try.prog w = .ok (.string (strOf l)) w := by
  obtain ⟨hl, hx, h3⟩ := h
  rw [run_convert_bytes_string w 23 9 5 A n c Try.underlying23 Try.underlying5 Try.underlying9]
  rcases A with _ | ad
  · have hn : n = 0 := by
      rcases Nat.eq_zero_or_pos n with h0 | h0
      · exact h0
      · obtain ⟨_, e, _⟩ := h3 h0
        cases e
    subst hn
    have : l = [] := List.eq_nil_of_length_eq_zero hl
    subst this
    simp [Conv.bytesToString, strOf]
    rfl
  · have hload : (loadCells ad n).run Try.prog w = .ok ((l.map fun x : Nat => (x : Int)).map (Value.int .u8)).toArray w := by
      have := run_loadCells_list (P := Try.prog) w ad ((l.map fun x : Nat => (x : Int)).map (Value.int .u8)) (fun j v hj => by
        have hjl : j < l.length := by
          rcases Nat.lt_or_ge j l.length with h | h
          · exact h
          · simp [List.getElem?_eq_none h] at hj
        obtain ⟨ad', e, _, hc⟩ := h3 (by omega)
        cases e
        rw [hc j (by omega)]
        simp [List.getElem?_eq_getElem hjl] at hj
        subst hj
        simp [hjl])
      simpa [hl] using this
    rw [run_bytesToString w ad n c _ hload, foldl_push_bytes]
    simp [strOf, ByteArray.empty, ByteArray.emptyWithCapacity]
    rfl

theorem same_any (A A' : Option Addr) (n c n' c' : Nat) (l : List Nat) (w : World) (h : RB w A n l) (h' : RB w A' n' l) :
    Calls Try.prog 14 #[.slice A n c, .slice A' n' c'] w fun e w' => e = .returned (.bool true) ∧ w = w' := by
  have h1 := run_conv A n c l w h
  have h2 := run_conv A' n' c' l w h'
  clear h h'
  go_enter Try.func14, Try.ntmps14
  go_wp2
  go_ret
  exact ⟨rfl, rfl⟩
end Go.Proofs.Ytdmfkmaelebogaa
