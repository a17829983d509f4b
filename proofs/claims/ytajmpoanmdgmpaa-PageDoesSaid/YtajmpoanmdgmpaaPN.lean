/-
  THE WALK OF alive.
-/
import Derived.Test.YtajmpoanmdgmpaaPK
import Derived.Test.YtajmpoanmdgmpaaPM
import Derived.Lib.SlBytesConst
namespace Go.Proofs.Ytajmpoanmdgmpaa
open Go.RowKit

theorem few_of {w : World} {S T : Nat → Prop} {p : PV} (h : p.In w S T) (hn : p.es.length ≤ 300) (hm : ∀ c ∈ p.es, c.d.length ≤ 2000) : Few p :=
  ⟨by rw [← h.len]; exact hn, fun x hx => by
    have := hm x.e (List.mem_map_of_mem hx)
    have h2 := (h.r.2.1 x hx).len
    have h3 : x.d.length ≤ 2000 := this
    omega⟩
theorem ab_rb (w : World) (fr : Nat × Nat) : RB (w.alloc (.cells #[.int .u8 97, .int .u8 98] 5 fr)) All (some ⟨w.heap.size, 0, none⟩) 2 [97, 98] := by
  refine ⟨rfl, by decide, fun _ => ⟨_, rfl, by simp, trivial, fun j hj => ?_⟩⟩
  rw [add_head, World.cell?_alloc_mark]
  have : ∀ j : Fin 2, (#[Value.int .u8 97, Value.int .u8 98])[j.val]? = some (.int .u8 ((([97, 98] : List Nat).getD j.val 0 : Nat) : Int)) := by
    intro j
    match j with
    | 0 => rfl
    | 1 => rfl
  exact this ⟨j, hj⟩
theorem c_rb (w : World) (fr : Nat × Nat) : RB (w.alloc (.cells #[.int .u8 99] 5 fr)) All (some ⟨w.heap.size, 0, none⟩) 1 [99] := by
  refine ⟨rfl, by decide, fun _ => ⟨_, rfl, by simp, trivial, fun j hj => ?_⟩⟩
  rw [add_head, World.cell?_alloc_mark]
  have : ∀ j : Fin 1, (#[Value.int .u8 99])[j.val]? = some (.int .u8 ((([99] : List Nat).getD j.val 0 : Nat) : Int)) := by
    intro j
    match j with
    | 0 => rfl
  exact this ⟨j, hj⟩
def es1 : List CE := [⟨true, 0, [97, 98]⟩]
def es2 : List CE := [⟨true, 0, [97, 98]⟩, ⟨true, 0, [99]⟩]
theorem may0 : may 1 [] = true := by decide
theorem may1 : may 1 es1 = true := by decide
theorem may2 : may 1 es2 = true := by decide
theorem zero_in (w : World) : PV.In w All All ⟨1, 0, 0, none, 0, 0, []⟩ := ⟨CR.nil_ _, Nat.le_refl _, fun _ => rfl, by show (-9223372036854775808 : Int) ≤ 1; omega, by show (1 : Int) ≤ _; omega, by show (0 : Nat) < _; omega, by show (0 : Nat) < _; omega⟩
set_option maxHeartbeats 2000000 in
set_option maxRecDepth 100000 in
theorem alive_any (w : World) : Calls Try.prog 14 #[] w fun e w' => e = .returned (.bool true) ∧ Below w.heap.size w w' := by
  have kc := fun (w : World) (C : Array Value) (n c : Nat) => Lib.run_convert_bytes_const (P := Try.prog) w 32 5 C n c Try.underlying32 Try.underlying5
  have hb0 : Below w.heap.size w (w.alloc (.cells #[.int .u8 97, .int .u8 98] 5 (2, 3))) := (Below.refl _ _).alloc (Nat.le_refl _) _
  obtain ⟨D, hD⟩ : ∃ D, w.alloc (.cells #[.int .u8 97, .int .u8 98] 5 (2, 3)) = D := ⟨_, rfl⟩
  have hrb := ab_rb w (2, 3)
  rw [hD] at hrb hb0
  have HB0 := Lib.hid hb0
  have HD1 : Hid (Calls Try.prog 30 #[.agg #[.int .i64 1, .int .u64 0, .int .u32 0, .slice none 0 0], .agg #[.int .i64 1, .int .i64 0, .int .u32 0, .slice (some ⟨w.heap.size, 0, none⟩) 2 2]] D (DoO D 1 0 0 es1)) :=
    Do_end D ⟨1, 0, 0, none, 0, 0, []⟩ (zero_in D) rfl (by show (0 : Nat) < 60; omega) ⟨by show (0 : Nat) ≤ 300; omega, by simp⟩ may0 ⟨1, 0, 0, some ⟨w.heap.size, 0, none⟩, 2, 2, [97, 98]⟩ ⟨hrb, by show (-9223372036854775808 : Int) ≤ 1; omega, by show (1 : Int) ≤ _; omega, by show (-9223372036854775808 : Int) ≤ 0; omega, by show (0 : Int) ≤ _; omega, by show (0 : Nat) < _; omega, by show (2 : Nat) ≤ 2; omega, by show (2 : Nat) ≤ _; omega, fun e => by cases e⟩ ⟨rfl, rfl, by show (1 : Nat) ≤ 2; omega, by show (2 : Nat) ≤ 180; omega⟩ rfl (by show psz [] + 6 + 2 ≤ 512; decide)
  clear hrb hb0
  go_enter Try.func14, Try.ntmps14
  go_wp2_with fail
  refine HD1.out.mono ?_
  rintro e w1 ⟨p1, rfl, hi1, he1, hk1, hs1, hx1, hb1⟩
  obtain ⟨D1, hD1, hB1, hbx1, hz1⟩ := box_page w1 p1
  have hbm : Below D1.heap.size D1 (D1.alloc (.cells #[.int .u8 99] 5 (1, 2))) := (Below.refl _ _).alloc (Nat.le_refl _) _
  have hrc := c_rb D1 (1, 2)
  obtain ⟨E1, hE1⟩ : ∃ E1, D1.alloc (.cells #[.int .u8 99] 5 (1, 2)) = E1 := ⟨_, rfl⟩
  rw [hE1] at hrc hbm
  obtain ⟨y0, y1, y2, y3⟩ := pcs_cells hbx1
  have hi1' := (hi1.below hB1).below hbm
  have hn1 : p1.n = 1 := by rw [← hi1.len, he1]; rfl
  have hf1 : Few p1 := few_of hi1 (by rw [he1]; decide) (by rw [he1]; decide)
  have HB1 := Lib.hid (HB0.out.trans (hb1.mono HB0.out.size))
  have HBE1 := Lib.hid ((HB1.out.trans (hB1.mono HB1.out.size)).trans (hbm.mono (by have := HB1.out.size; omega)))
  have hd2 := Do_end E1 p1 hi1' hk1 (by omega) hf1 (by rw [he1]; exact may1) ⟨1, 1, 0, some ⟨D1.heap.size, 0, none⟩, 1, 1, [99]⟩ ⟨hrc, by show (-9223372036854775808 : Int) ≤ 1; omega, by show (1 : Int) ≤ _; omega, by show (-9223372036854775808 : Int) ≤ 1; omega, by show (1 : Int) ≤ _; omega, by show (0 : Nat) < _; omega, by show (1 : Nat) ≤ 1; omega, by show (1 : Nat) ≤ _; omega, fun e => by cases e⟩ ⟨rfl, rfl, by show (1 : Nat) ≤ 1; omega, by show (1 : Nat) ≤ 180; omega⟩ (by rw [hn1]; rfl) (by rw [he1]; show psz es1 + 6 + 1 ≤ 512; decide)
  rw [he1] at hd2
  have HD2 : Hid (Calls Try.prog 30 #[.agg #[.int .i64 p1.k, .int .u64 (p1.s : Int), .int .u32 (p1.x : Int), .slice p1.A p1.n p1.c], .agg #[.int .i64 1, .int .i64 1, .int .u32 0, .slice (some ⟨D1.heap.size, 0, none⟩) 1 1]] E1 (DoO E1 1 p1.s p1.x es2)) := hd2
  have HI1 := Lib.hid hi1'
  have HE1 := Lib.hid he1
  have HF1 := Lib.hid hf1
  have HBX1 := Lib.hid (hbx1.below hbm hbx1.lt)
  have HBM := Lib.hid hbm
  have HDL := Lib.hid (show w1.heap.size < E1.heap.size by have := hbm.size; omega)
  clear hi1 he1 hk1 hs1 hx1 hb1 hB1 hbx1 hz1 hrc hi1' hn1 hf1 hd2 hbm
  simp only [PV.agg]
  go_wp2_with fail
  refine HD2.out.mono ?_
  rintro e w2 ⟨p2, rfl, hi2, he2, hk2, hs2, hx2, hb2⟩
  obtain ⟨D2, hD2, hB2, hbx2, hz2⟩ := box_page w2 p2
  have hbm : Below D2.heap.size D2 (D2.alloc (.cells #[.int .u8 99] 5 (1, 2))) := (Below.refl _ _).alloc (Nat.le_refl _) _
  have hrc := c_rb D2 (1, 2)
  obtain ⟨E2, hE2⟩ : ∃ E2, D2.alloc (.cells #[.int .u8 99] 5 (1, 2)) = E2 := ⟨_, rfl⟩
  rw [hE2] at hrc hbm
  obtain ⟨t0, t1, t2, t3⟩ := pcs_cells hbx2
  have hi2' := (hi2.below hB2).below hbm
  have hf2 : Few p2 := few_of hi2 (by rw [he2]; decide) (by rw [he2]; decide)
  have HB2 := Lib.hid (HBE1.out.trans (hb2.mono HBE1.out.size))
  have HBE2 := Lib.hid ((HB2.out.trans (hB2.mono HB2.out.size)).trans (hbm.mono (by have := HB2.out.size; omega)))
  have hd3 := Do_there E2 p2 hi2' hk2 hf2 (by rw [he2]; exact may2) ⟨1, 1, 0, some ⟨D2.heap.size, 0, none⟩, 1, 1, [99]⟩ ⟨rfl, rfl, by show (1 : Nat) ≤ 1; omega, by show (1 : Nat) ≤ 180; omega⟩ 1 rfl ⟨true, 0, [99]⟩ (by rw [he2]; rfl) rfl
  have HD3 : Hid (Calls Try.prog 30 #[.agg #[.int .i64 p2.k, .int .u64 (p2.s : Int), .int .u32 (p2.x : Int), .slice p2.A p2.n p2.c], .agg #[.int .i64 1, .int .i64 1, .int .u32 0, .slice (some ⟨D2.heap.size, 0, none⟩) 1 1]] E2 fun e w' => e = .returned (.tuple #[.agg #[.int .i64 0, .int .u64 0, .int .u32 0, .slice none 0 0], .int .i64 7]) ∧ Below E2.heap.size E2 w') := hd3
  have HI2 := Lib.hid hi2'
  have HE2 := Lib.hid he2
  have HK2 := Lib.hid hk2
  have HF2 := Lib.hid hf2
  have HBX2 := Lib.hid (hbx2.below hbm hbx2.lt)
  have HB12 := Lib.hid (show Below E1.heap.size E1 E2 from (hb2.trans (hB2.mono hb2.size)).trans (hbm.mono (by have := hb2.size; omega)))
  have HDL2 := Lib.hid (show w2.heap.size < E2.heap.size by have := hbm.size; omega)
  clear hi2 he2 hk2 hs2 hx2 hb2 hB2 hbx2 hz2 hrc hi2' hf2 hd3 hbm
  simp only [PV.agg]
  go_wp2_with fail
  refine HD3.out.mono ?_
  rintro e w3 ⟨rfl, hb3⟩
  have HB3 := Lib.hid hb3
  obtain ⟨D3, hD3, hB3, hbx3, hz3⟩ := box_page w3 PV.zero
  have hE3 : Below E2.heap.size E2 D3 := hb3.trans (hB3.mono hb3.size)
  have HE3 := Lib.hid hE3
  obtain ⟨t0, t1, t2, t3⟩ := pcs_cells (HBX2.out.below hE3 HDL2.out)
  have henc := encode_yes p2 D3 (HI2.out.below hE3) HF2.out (by rw [HK2.out, HE2.out]; exact may2)
  have HEN := Lib.hid henc
  simp only [PV.agg] at HEN
  have hD3' : w3.alloc (.cells #[.int .i64 0, .int .u64 0, .int .u32 0, .slice none 0 0] 26) = D3 := hD3
  rw [← hD3'] at t0 t1 t2 t3 HEN HE3
  clear hb3 hB3 hbx3 hz3 hE3 henc hD3 hD3'
  go_wp2_with fail
  refine HEN.out.mono ?_
  rintro e w4 ⟨v4, rfl, ho4, hb4⟩
  obtain ⟨A4, c4, rfl, _, _, _⟩ := ho4.reads
  have HB4 := Lib.hid (show Below E2.heap.size E2 w4 from HE3.out.trans (hb4.mono HE3.out.size))
  have HB14 := Lib.hid (show Below E1.heap.size E1 w4 from HB12.out.trans (HB4.out.mono HB12.out.size))
  obtain ⟨y0, y1, y2, y3⟩ := pcs_cells (HBX1.out.below HB14.out HDL.out)
  obtain ⟨t0, t1, t2, t3⟩ := pcs_cells (HBX2.out.below HB4.out HDL2.out)
  have hs1 := size_any p1 w4 (HI1.out.below HB14.out) (fun x hx => Nat.le_trans (HF1.out.m x hx) (by omega)) (Nat.le_trans HF1.out.n (by omega))
  rw [HE1.out, show psz es1 = 26 by decide] at hs1
  have HS1 : Hid (Calls Try.prog 18 #[.agg #[.int .i64 p1.k, .int .u64 (p1.s : Int), .int .u32 (p1.x : Int), .slice p1.A p1.n p1.c]] w4 fun e w' => e = .returned (.int .i64 26) ∧ Below w4.heap.size w4 w') := hs1
  clear ho4 hb4 hs1
  go_wp2_with fail
  refine HS1.out.mono ?_
  rintro e w5 ⟨rfl, hb5⟩
  have HB5 := Lib.hid (HB4.out.trans (hb5.mono HB4.out.size))
  obtain ⟨t0, t1, t2, t3⟩ := pcs_cells (HBX2.out.below HB5.out HDL2.out)
  have hs2 := size_any p2 w5 (HI2.out.below HB5.out) (fun x hx => Nat.le_trans (HF2.out.m x hx) (by omega)) (Nat.le_trans HF2.out.n (by omega))
  rw [HE2.out, show psz es2 = 33 by decide] at hs2
  have HS2 : Hid (Calls Try.prog 18 #[.agg #[.int .i64 p2.k, .int .u64 (p2.s : Int), .int .u32 (p2.x : Int), .slice p2.A p2.n p2.c]] w5 fun e w' => e = .returned (.int .i64 33) ∧ Below w5.heap.size w5 w') := hs2
  clear hb5 hs2
  go_wp2_with fail
  refine HS2.out.mono ?_
  rintro e w6 ⟨rfl, hb6⟩
  have HB6 := Lib.hid (HB5.out.trans (hb6.mono HB5.out.size))
  obtain ⟨t0, t1, t2, t3⟩ := pcs_cells (HBX2.out.below HB6.out HDL2.out)
  have hr := room_any p2 w6 (HI2.out.below HB6.out) HF2.out
  rw [HE2.out, HK2.out, show room 1 es2 = 180 by decide] at hr
  have HR : Hid (Calls Try.prog 20 #[.agg #[.int .i64 p2.k, .int .u64 (p2.s : Int), .int .u32 (p2.x : Int), .slice p2.A p2.n p2.c]] w6 fun e w' => e = .returned (.int .i64 180) ∧ Below w6.heap.size w6 w') := hr
  clear hb6 hr
  go_wp2_with fail
  refine HR.out.mono ?_
  rintro e w7 ⟨rfl, hb7⟩
  have HB7 := Lib.hid (HB6.out.trans (hb7.mono HB6.out.size))
  obtain ⟨t0, t1, t2, t3⟩ := pcs_cells (HBX2.out.below HB7.out HDL2.out)
  have hm := may_any p2 w7 (HI2.out.below HB7.out) HF2.out
  rw [HE2.out, HK2.out, may2] at hm
  have HM : Hid (Calls Try.prog 16 #[.agg #[.int .i64 p2.k, .int .u64 (p2.s : Int), .int .u32 (p2.x : Int), .slice p2.A p2.n p2.c]] w7 fun e w' => e = .returned (.bool true) ∧ Below w7.heap.size w7 w') := hm
  clear hb7 hm
  go_wp2_with fail
  refine HM.out.mono ?_
  rintro e w8 ⟨rfl, hb8⟩
  have HB8 := Lib.hid (HB7.out.trans (hb8.mono HB7.out.size))
  clear hb8
  go_wp2_with fail
  go_ret
  exact ⟨rfl, HBE2.out.trans (HB8.out.mono HBE2.out.size)⟩
end Go.Proofs.Ytajmpoanmdgmpaa
