/-
STAGE 12: the law's same, pairs, numbers.
-/
import Derived.Test.YtlblgfpafdfilaaDoorNT
namespace Go.Proofs.YtlblgfpafdfilaaDoor
open Go.RowKit Go.Sort

set_option maxRecDepth 100000 in
theorem part_one (w : World) (t : TypeId) (h : t = 34 ∨ t = 3 ∨ t = 4 ∨ t = 9) (xs : Array Value) (i : Nat) (v : Value) (hv : xs[i]? = some v) : (part t xs i).run Tryd.prog w = .ok v w := by
  rcases h with rfl | rfl | rfl | rfl
  · simp [part, isAgg, run_underlying Tryd.underlying34, hv]
  · simp [part, isAgg, run_underlying Tryd.underlying3, hv]
  · simp [part, isAgg, run_underlying Tryd.underlying4, hv]
  · simp [part, isAgg, run_underlying Tryd.underlying9, hv]
set_option maxRecDepth 100000 in
theorem thing_eq (x : Th) (d : Nat) (w : World) : (Op.equalIn (d + 2) 36 x.agg x.agg).run Tryd.prog w = .ok true w := by
  have hf : Tryd.prog.fieldsOf 36 = #[{ name := "Range", type := 4, offset := 0, embedded := false, tag := "", pkgPath := "", byteOffset := 0 }, { name := "Id", type := 34, offset := 1, embedded := false, tag := "", pkgPath := "", byteOffset := 4 }, { name := "From", type := 9, offset := 2, embedded := false, tag := "", pkgPath := "", byteOffset := 8 }, { name := "To", type := 9, offset := 3, embedded := false, tag := "", pkgPath := "", byteOffset := 24 }] := by
    unfold Program.fieldsOf
    rw [Tryd.underlying36]
  have hs : Tryd.prog.stoodInHeld 36 = false := by kernel_rfl
  have p0 := part_one w 4 (by simp) #[.bool x.r, .int .u32 (x.i : Int), .string x.a, .string x.b] 0 _ rfl
  have p1 := part_one w 34 (by simp) #[.bool x.r, .int .u32 (x.i : Int), .string x.a, .string x.b] 1 _ rfl
  have p2 := part_one w 9 (by simp) #[.bool x.r, .int .u32 (x.i : Int), .string x.a, .string x.b] 2 _ rfl
  have p3 := part_one w 9 (by simp) #[.bool x.r, .int .u32 (x.i : Int), .string x.a, .string x.b] 3 _ rfl
  have q0 := run_equalIn_bool' (P := Tryd.prog) w d 4 x.r x.r Tryd.underlying4
  have q1 := run_equalIn_int (P := Tryd.prog) w d 34 .u32 .u32 (x.i : Int) (x.i : Int) Tryd.underlying34
  have q2 := run_equalIn_string (P := Tryd.prog) w d 9 x.a x.a Tryd.underlying9
  have q3 := run_equalIn_string (P := Tryd.prog) w d 9 x.b x.b Tryd.underlying9
  simp only [List.getElem_toArray, List.getElem_cons_zero, List.getElem_cons_succ] at p0 p1 p2 p3
  unfold Th.agg
  rw [run_equalIn_agg w (d + 1) 36 _ _ (by rw [hf]; exact Tryd.underlying36) hs, hf]
  simp [Op.eqFields, p0, p1, p2, p3, q0, q1, q2, q3]
set_option maxRecDepth 100000 in
theorem lock_neq (l : LK) (w : World) : (binOp .neq 46 l.agg l.agg).run Tryd.prog w = .ok (.bool false) w := by
  have h46 : Tryd.prog.stoodInHeld 46 = false := by kernel_rfl
  have hf : Tryd.prog.fieldsOf 46 = #[{ name := "Txn", type := 34, offset := 0, embedded := false, tag := "", pkgPath := "", byteOffset := 0 }, { name := "Thing", type := 36, offset := 1, embedded := false, tag := "", pkgPath := "", byteOffset := 8 }, { name := "Mode", type := 3, offset := 5, embedded := false, tag := "", pkgPath := "", byteOffset := 48 }, { name := "Held", type := 4, offset := 6, embedded := false, tag := "", pkgPath := "", byteOffset := 56 }] := by
    unfold Program.fieldsOf
    rw [Tryd.underlying46]
  have p0 := part_one w 34 (by simp) #[.int .u32 (l.t : Int), .bool l.x.r, .int .u32 (l.x.i : Int), .string l.x.a, .string l.x.b, .int .i64 l.m, .bool l.h] 0 _ rfl
  have p1 : (part 36 #[.int .u32 (l.t : Int), .bool l.x.r, .int .u32 (l.x.i : Int), .string l.x.a, .string l.x.b, .int .i64 l.m, .bool l.h] 1).run Tryd.prog w = .ok l.x.agg w := by
    obtain ⟨i0, hi, hz⟩ : ∃ i, Tryd.prog.info? 36 = some i ∧ i.size = 4 := ⟨_, rfl, by kernel_rfl⟩
    simp [part, isAgg, run_underlying Tryd.underlying36, sizeOf, typeInfo, hi, hz]
    rfl
  have p2 := part_one w 3 (by simp) #[.int .u32 (l.t : Int), .bool l.x.r, .int .u32 (l.x.i : Int), .string l.x.a, .string l.x.b, .int .i64 l.m, .bool l.h] 5 _ rfl
  have p3 := part_one w 4 (by simp) #[.int .u32 (l.t : Int), .bool l.x.r, .int .u32 (l.x.i : Int), .string l.x.a, .string l.x.b, .int .i64 l.m, .bool l.h] 6 _ rfl
  have q0 := run_equalIn_int (P := Tryd.prog) w 9998 34 .u32 .u32 (l.t : Int) (l.t : Int) Tryd.underlying34
  have q1 := thing_eq l.x 9997 w
  have q2 := run_equalIn_int (P := Tryd.prog) w 9998 3 .i64 .i64 l.m l.m Tryd.underlying3
  have q3 := run_equalIn_bool' (P := Tryd.prog) w 9998 4 l.h l.h Tryd.underlying4
  simp only [List.getElem_toArray, List.getElem_cons_zero, List.getElem_cons_succ] at p0 p2 p3
  unfold LK.agg
  rw [run_neq_struct, run_equalIn_agg w 9999 46 _ _ (by rw [hf]; exact Tryd.underlying46) h46, hf]
  simp [Op.eqFields, p0, p1, p2, p3, q0, q1, q2, q3]
set_option maxRecDepth 100000 in
theorem pair_neq (a b : Nat) (w : World) : (binOp .neq 47 (.agg #[.int .u32 (a : Int), .int .u32 (b : Int)]) (.agg #[.int .u32 (a : Int), .int .u32 (b : Int)])).run Tryd.prog w = .ok (.bool false) w := by
  obtain ⟨i0, hi, _, _, _⟩ := info_parts K34.inf
  have hc : Tryd.prog.cellsOf 34 = 1 := by kernel_rfl
  have q0 : (part 34 #[.int .u32 (a : Int), .int .u32 (b : Int)] 0).run Tryd.prog w = .ok (.int .u32 (a : Int)) w := part_one w 34 (by simp) _ _ _ rfl
  have q1 : (part 34 #[.int .u32 (a : Int), .int .u32 (b : Int)] 1).run Tryd.prog w = .ok (.int .u32 (b : Int)) w := part_one w 34 (by simp) _ _ _ rfl
  have e0 : ∀ x : Int, (Op.equalIn 9999 34 (.int .u32 x) (.int .u32 x)).run Tryd.prog w = .ok true w := fun x => by
    have := run_equalIn_int (P := Tryd.prog) w 9998 34 .u32 .u32 x x Tryd.underlying34
    rw [this, beq_self_eq_true]
  rw [run_neq_struct, run_equalIn_array w 9999 _ _ Tryd.underlying47 hi, hc]
  show ((Op.eqItems 9999 34 1 _ _ [0, 1]).run Tryd.prog w).andThen _ = _
  simp [Op.eqItems, q0, q1, e0]
set_option maxRecDepth 100000 in
set_option maxHeartbeats 4000000 in
theorem same_any (w : World) (A A2 : Option Addr) (n c c2 : Nat) (ls : List LK) (hlen : ls.length = n) (h1 : Row w A ls) (h2 : Row w A2 ls) (hn : n ≤ 16384) :
    Calls Tryd.prog 14 #[.slice A n c, .slice A2 n c2] w fun e w' => e = .returned (.bool true) ∧ Below w.heap.size w w' := by
  have H1 := Lib.hid h1
  have H2 := Lib.hid h2
  have HL := Lib.hid hlen
  have HN := Lib.hid hn
  have hne : ((n : Int) != (n : Int)) = false := by simp
  clear h1 h2 hlen
  go_enter Tryd.func14, Tryd.ntmps14
  go_upto_region 4 with fail
  go_loopw [5] (fun i wr => ∃ k : Nat, k ≤ n ∧ i = .int .i64 (k : Int) ∧ Below w.heap.size w wr) (fun i _ => n - (intOf i).toNat)
  case atStart => exact ⟨0, by omega, rfl, Below.refl _ _⟩
  case round =>
    obtain ⟨k, hk, rfl, hb⟩ := hrel
    have HB := Lib.hid hb
    by_cases hlt : k < n
    · have hl : ls[k]? = some (ls[k]'(by have := HL.out; omega)) := List.getElem?_eq_getElem _
      generalize ls[k]'(by have := HL.out; omega) = l at hl
      obtain ⟨b, rfl, hc1⟩ := H1.out k l hl
      obtain ⟨b2, rfl, hc2⟩ := H2.out k l hl
      obtain ⟨z0, z1, z2, z3, z4, z5, z6⟩ := hc1.up hb
      obtain ⟨y0, y1, y2, y3, y4, y5, y6⟩ := hc2.up hb
      have hin : ((k : Int) < (n : Int)) := by omega
      have e1 : IntKind.i64.wrap ((k : Int) + 1) = ((k + 1 : Nat) : Int) := by rw [IntWalk.i64_in _ (by have := HN.out; omega)]; omega
      have heq := fun W => lock_neq l W
      simp only [LK.agg] at heq
      clear hl hc1 hc2 hb
      go_upto_region 6 with fail
      go_region
      go_wp2_with fail
      go_roundw
      case rel => exact ⟨k + 1, by omega, by go_num, HB.out.drew⟩
      case measure => simp [intOf]; omega
    · obtain rfl : k = n := by omega
      have hin : ¬ ((k : Int) < (k : Int)) := by omega
      clear hb
      go_wp2_with fail
      go_ret
      exact ⟨rfl, HB.out⟩
set_option maxRecDepth 100000 in
set_option maxHeartbeats 4000000 in
theorem pairs_any (w : World) (A A2 : Option Addr) (n c c2 : Nat) (ps : List (Nat × Nat)) (hlen : ps.length = n) (h1 : PRow w A ps) (h2 : PRow w A2 ps) (hn : n ≤ 1000000000) :
    Calls Tryd.prog 15 #[.slice A n c, .slice A2 n c2] w fun e w' => e = .returned (.bool true) ∧ Below w.heap.size w w' := by
  have H1 := Lib.hid h1
  have H2 := Lib.hid h2
  have HL := Lib.hid hlen
  have HN := Lib.hid hn
  have hne : ((n : Int) != (n : Int)) = false := by simp
  clear h1 h2 hlen
  go_enter Tryd.func15, Tryd.ntmps15
  go_upto_region 4 with fail
  go_loopw [5] (fun i wr => ∃ k : Nat, k ≤ n ∧ i = .int .i64 (k : Int) ∧ Below w.heap.size w wr) (fun i _ => n - (intOf i).toNat)
  case atStart => exact ⟨0, by omega, rfl, Below.refl _ _⟩
  case round =>
    obtain ⟨k, hk, rfl, hb⟩ := hrel
    have HB := Lib.hid hb
    by_cases hlt : k < n
    · have hl : ps[k]? = some (ps[k]'(by have := HL.out; omega)) := List.getElem?_eq_getElem _
      generalize ps[k]'(by have := HL.out; omega) = p at hl
      obtain ⟨b, rfl, z0, z1⟩ := (H1.out.up hb) k p hl
      obtain ⟨b2, rfl, y0, y1⟩ := (H2.out.up hb) k p hl
      have hin : ((k : Int) < (n : Int)) := by omega
      have e1 : IntKind.i64.wrap ((k : Int) + 1) = ((k + 1 : Nat) : Int) := by rw [IntWalk.i64_in _ (by have := HN.out; omega)]; omega
      have heq := fun W => pair_neq p.1 p.2 W
      clear hl hb
      go_upto_region 6 with fail
      go_region
      go_wp2_with fail
      go_roundw
      case rel => exact ⟨k + 1, by omega, by go_num, HB.out.drew⟩
      case measure => simp [intOf]; omega
    · obtain rfl : k = n := by omega
      have hin : ¬ ((k : Int) < (k : Int)) := by omega
      clear hb
      go_wp2_with fail
      go_ret
      exact ⟨rfl, HB.out⟩
set_option maxRecDepth 100000 in
set_option maxHeartbeats 4000000 in
theorem numbers_any (w : World) (A A2 : Option Addr) (n c c2 : Nat) (ps : List Nat) (hlen : ps.length = n) (h1 : UR w A ps) (h2 : UR w A2 ps) (hn : n ≤ 1000000000) :
    Calls Tryd.prog 27 #[.slice A n c, .slice A2 n c2] w fun e w' => e = .returned (.bool true) ∧ Below w.heap.size w w' := by
  have H1 := Lib.hid h1
  have H2 := Lib.hid h2
  have HL := Lib.hid hlen
  have HN := Lib.hid hn
  have hne : ((n : Int) != (n : Int)) = false := by simp
  clear h1 h2 hlen
  go_enter Tryd.func27, Tryd.ntmps27
  go_upto_region 4 with fail
  go_loopw [5] (fun i wr => ∃ k : Nat, k ≤ n ∧ i = .int .i64 (k : Int) ∧ Below w.heap.size w wr) (fun i _ => n - (intOf i).toNat)
  case atStart => exact ⟨0, by omega, rfl, Below.refl _ _⟩
  case round =>
    obtain ⟨k, hk, rfl, hb⟩ := hrel
    have HB := Lib.hid hb
    by_cases hlt : k < n
    · have hl : ps[k]? = some (ps[k]'(by have := HL.out; omega)) := List.getElem?_eq_getElem _
      generalize ps[k]'(by have := HL.out; omega) = p at hl
      obtain ⟨b, rfl, z0⟩ := (H1.out.up hb) k p hl
      obtain ⟨b2, rfl, y0⟩ := (H2.out.up hb) k p hl
      have hin : ((k : Int) < (n : Int)) := by omega
      have e1 : IntKind.i64.wrap ((k : Int) + 1) = ((k + 1 : Nat) : Int) := by rw [IntWalk.i64_in _ (by have := HN.out; omega)]; omega
      have heq : ((p : Int) != (p : Int)) = false := by simp
      clear hl hb
      go_upto_region 6 with fail
      go_region
      go_wp2_with fail
      go_roundw
      case rel => exact ⟨k + 1, by omega, by go_num, HB.out.drew⟩
      case measure => simp [intOf]; omega
    · obtain rfl : k = n := by omega
      have hin : ¬ ((k : Int) < (k : Int)) := by omega
      clear hb
      go_wp2_with fail
      go_ret
      exact ⟨rfl, HB.out⟩
end Go.Proofs.YtlblgfpafdfilaaDoor
