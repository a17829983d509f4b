/-
  THE FIELDS OF A RECORD: number, list, fieldsOf.
-/
import Derived.Test.YtdhgbkibbileiaaGreatRC
import Derived.Laws.EntriesVeiled
namespace Go.Proofs.YtdhgbkibbileiaaGreat
open Go.RowKit


set_option maxHeartbeats 2000000 in
set_option maxRecDepth 100000 in
theorem number_any (w : World) (u : Bool) (x f : Nat) (br : Nat) : Calls Tryz.prog 70 #[.bool u, .int .u64 (x : Int), .func (.func f) #[] #[.pointer (some ⟨br, 0, none⟩)]] w fun e w' =>
    e = .returned (.agg #[.bool u, .bool (decide (x = 0)), .func (.func 105) #[] #[.pointer (some ⟨w.heap.size, 0, none⟩)], .func (.func 107) #[] #[.pointer (some ⟨(w.heap.size + 1), 0, none⟩)]]) ∧ Below w.heap.size w w' ∧ Blk w' w.heap.size 22 #[.int .u64 (x : Int)] ∧ Blk w' (w.heap.size + 1) 123 #[.func (.func f) #[] #[.pointer (some ⟨br, 0, none⟩)]] ∧ w'.heap.size = w.heap.size + 3 := by
  have hmf : ∀ (fn : Fn) (first cap : Array Value) (w : World), (Instr.makeFunc fn first cap).run Tryz.prog w = .ok (.func fn first cap) w := fun _ _ _ _ => rfl
  obtain ⟨z, hz⟩ : ∃ z, z = decide (x = 0) := ⟨_, rfl⟩
  have e0 : ((x : Int) == 0) = z := by rw [hz, Bool.eq_iff_iff, beq_iff_eq, decide_eq_true_eq]; omega
  rw [← hz]
  obtain ⟨w1, hw1⟩ : ∃ w1, w.alloc (.cells #[.int .u64 (x : Int)] 22) = w1 := ⟨_, rfl⟩
  obtain ⟨w2, hw2⟩ : ∃ w2, w1.alloc (.cells #[.func (.func f) #[] #[.pointer (some ⟨br, 0, none⟩)]] 123) = w2 := ⟨_, rfl⟩
  have hb1 : Blk w1 w.heap.size 22 #[.int .u64 (x : Int)] := by rw [← hw1]; exact Blk.new w 22 _
  have hs1 : w1.heap.size = w.heap.size + 1 := by rw [← hw1]; simp
  have hb1' : Blk w2 w.heap.size 22 #[.int .u64 (x : Int)] := by rw [← hw2]; exact hb1.alloc _
  have hb2 : Blk w2 w1.heap.size 123 #[.func (.func f) #[] #[.pointer (some ⟨br, 0, none⟩)]] := by rw [← hw2]; exact Blk.new w1 123 _
  have hs2 : w2.heap.size = w.heap.size + 2 := by rw [← hw2]; simp; omega
  have hB : Below w.heap.size w w2 := by rw [← hw2, ← hw1]; exact ((Below.refl _ _).alloc (Nat.le_refl _) _).alloc (by simp) _
  have HALL := Lib.hid (show Blk w2 w.heap.size 22 #[.int .u64 (x : Int)] ∧ Blk w2 w1.heap.size 123 #[.func (.func f) #[] #[.pointer (some ⟨br, 0, none⟩)]] ∧ Below w.heap.size w w2 ∧ w1.heap.size = w.heap.size + 1 ∧ w2.heap.size = w.heap.size + 2 from ⟨hb1', hb2, hB, hs1, hs2⟩)
  have c0 := (hb1'.alloc (.cells #[.bool false, .bool false, .nilFunc, .nilFunc] 87)).cell 0
  simp only [List.getElem?_toArray, List.getElem?_cons_zero] at c0
  clear hz hb1 hb1' hb2 hs1 hs2 hB
  go_enter Tryz.func70, Tryz.ntmps70
  go_wp2
  go_returns
  obtain ⟨a, b, c, d, e⟩ := HALL.out
  refine ⟨by rw [d], c.alloc (by omega) _, a.alloc _, ?_, by simp; omega⟩
  rw [← d]
  exact b.alloc _

set_option maxHeartbeats 2000000 in
set_option maxRecDepth 100000 in
theorem listIV_any (w : World) (u : Bool) (A : Option Addr) (n c fw fr fs br : Nat) : Calls Tryz.prog 81 #[.bool u, .slice A n c, .func (.func fw) #[] #[], .func (.func fr) #[] #[], .func (.func fs) #[] #[.pointer (some ⟨br, 0, none⟩)]] w fun e w' =>
    e = .returned (.agg #[.bool u, .bool (decide (n = 0)), .func (.func 111) #[] #[.pointer (some ⟨w.heap.size, 0, none⟩), .pointer (some ⟨(w.heap.size + 1), 0, none⟩)], .func (.func 113) #[] #[.pointer (some ⟨(w.heap.size + 3), 0, none⟩), .pointer (some ⟨(w.heap.size + 2), 0, none⟩)]]) ∧ Below w.heap.size w w' ∧
      Blk w' w.heap.size 27 #[.slice A n c] ∧ Blk w' (w.heap.size + 1) 128 #[.func (.func fw) #[] #[]] ∧ Blk w' (w.heap.size + 2) 129 #[.func (.func fr) #[] #[]] ∧ Blk w' (w.heap.size + 3) 130 #[.func (.func fs) #[] #[.pointer (some ⟨br, 0, none⟩)]] ∧ w'.heap.size = w.heap.size + 5 := by
  have hmf : ∀ (fn : Fn) (first cap : Array Value) (w : World), (Instr.makeFunc fn first cap).run Tryz.prog w = .ok (.func fn first cap) w := fun _ _ _ _ => rfl
  obtain ⟨z, hz⟩ : ∃ z, z = decide (n = 0) := ⟨_, rfl⟩
  have e0 : ((n : Int) == 0) = z := by rw [hz, Bool.eq_iff_iff, beq_iff_eq, decide_eq_true_eq]; omega
  rw [← hz]
  obtain ⟨w1, hw1⟩ : ∃ w1, w.alloc (.cells #[.slice A n c] 27) = w1 := ⟨_, rfl⟩
  obtain ⟨w2, hw2⟩ : ∃ w2, w1.alloc (.cells #[.func (.func fw) #[] #[]] 128) = w2 := ⟨_, rfl⟩
  obtain ⟨w3, hw3⟩ : ∃ w3, w2.alloc (.cells #[.func (.func fr) #[] #[]] 129) = w3 := ⟨_, rfl⟩
  obtain ⟨w4, hw4⟩ : ∃ w4, w3.alloc (.cells #[.func (.func fs) #[] #[.pointer (some ⟨br, 0, none⟩)]] 130) = w4 := ⟨_, rfl⟩
  have hs1 : w1.heap.size = w.heap.size + 1 := by rw [← hw1]; simp
  have hs2 : w2.heap.size = w.heap.size + 2 := by rw [← hw2]; simp; omega
  have hs3 : w3.heap.size = w.heap.size + 3 := by rw [← hw3]; simp; omega
  have hs4 : w4.heap.size = w.heap.size + 4 := by rw [← hw4]; simp; omega
  have b1 : Blk w4 w.heap.size 27 #[.slice A n c] := by rw [← hw4, ← hw3, ← hw2, ← hw1]; exact (((Blk.new w 27 _).alloc _).alloc _).alloc _
  have b2 : Blk w4 w1.heap.size 128 #[.func (.func fw) #[] #[]] := by rw [← hw4, ← hw3, ← hw2]; exact ((Blk.new w1 128 _).alloc _).alloc _
  have b3 : Blk w4 w2.heap.size 129 #[.func (.func fr) #[] #[]] := by rw [← hw4, ← hw3]; exact (Blk.new w2 129 _).alloc _
  have b4 : Blk w4 w3.heap.size 130 #[.func (.func fs) #[] #[.pointer (some ⟨br, 0, none⟩)]] := by rw [← hw4]; exact Blk.new w3 130 _
  have hB : Below w.heap.size w w4 := by rw [← hw4, ← hw3, ← hw2, ← hw1]; exact ((((Below.refl _ _).alloc (Nat.le_refl _) _).alloc (by simp) _).alloc (by simp; omega) _).alloc (by simp; omega) _
  have HALL := Lib.hid (show Blk w4 w.heap.size 27 #[.slice A n c] ∧ Blk w4 w1.heap.size 128 #[.func (.func fw) #[] #[]] ∧ Blk w4 w2.heap.size 129 #[.func (.func fr) #[] #[]] ∧ Blk w4 w3.heap.size 130 #[.func (.func fs) #[] #[.pointer (some ⟨br, 0, none⟩)]] ∧ Below w.heap.size w w4 ∧ w1.heap.size = w.heap.size + 1 ∧ w2.heap.size = w.heap.size + 2 ∧ w3.heap.size = w.heap.size + 3 ∧ w4.heap.size = w.heap.size + 4 from ⟨b1, b2, b3, b4, hB, hs1, hs2, hs3, hs4⟩)
  have c0 := (b1.alloc (.cells #[.bool false, .bool false, .nilFunc, .nilFunc] 87)).cell 0
  simp only [List.getElem?_toArray, List.getElem?_cons_zero] at c0
  clear hz b1 b2 b3 b4 hs1 hs2 hs3 hs4 hB
  go_enter Tryz.func81, Tryz.ntmps81
  go_wp2
  go_returns
  obtain ⟨a1, a2, a3, a4, hb, d1, d2, d3, d4⟩ := HALL.out
  refine ⟨by rw [d1, d2, d3], hb.alloc (by omega) _, a1.alloc _, ?_, ?_, ?_, by simp; omega⟩
  · rw [← d1]; exact a2.alloc _
  · rw [← d2]; exact a3.alloc _
  · rw [← d3]; exact a4.alloc _

set_option maxHeartbeats 2000000 in
set_option maxRecDepth 100000 in
theorem listLV_any (w : World) (u : Bool) (A : Option Addr) (n c fw fr fs br : Nat) : Calls Tryz.prog 85 #[.bool u, .slice A n c, .func (.func fw) #[] #[], .func (.func fr) #[] #[], .func (.func fs) #[] #[.pointer (some ⟨br, 0, none⟩)]] w fun e w' =>
    e = .returned (.agg #[.bool u, .bool (decide (n = 0)), .func (.func 119) #[] #[.pointer (some ⟨w.heap.size, 0, none⟩), .pointer (some ⟨(w.heap.size + 1), 0, none⟩)], .func (.func 121) #[] #[.pointer (some ⟨(w.heap.size + 3), 0, none⟩), .pointer (some ⟨(w.heap.size + 2), 0, none⟩)]]) ∧ Below w.heap.size w w' ∧
      Blk w' w.heap.size 28 #[.slice A n c] ∧ Blk w' (w.heap.size + 1) 132 #[.func (.func fw) #[] #[]] ∧ Blk w' (w.heap.size + 2) 133 #[.func (.func fr) #[] #[]] ∧ Blk w' (w.heap.size + 3) 134 #[.func (.func fs) #[] #[.pointer (some ⟨br, 0, none⟩)]] ∧ w'.heap.size = w.heap.size + 5 := by
  have hmf : ∀ (fn : Fn) (first cap : Array Value) (w : World), (Instr.makeFunc fn first cap).run Tryz.prog w = .ok (.func fn first cap) w := fun _ _ _ _ => rfl
  obtain ⟨z, hz⟩ : ∃ z, z = decide (n = 0) := ⟨_, rfl⟩
  have e0 : ((n : Int) == 0) = z := by rw [hz, Bool.eq_iff_iff, beq_iff_eq, decide_eq_true_eq]; omega
  rw [← hz]
  obtain ⟨w1, hw1⟩ : ∃ w1, w.alloc (.cells #[.slice A n c] 28) = w1 := ⟨_, rfl⟩
  obtain ⟨w2, hw2⟩ : ∃ w2, w1.alloc (.cells #[.func (.func fw) #[] #[]] 132) = w2 := ⟨_, rfl⟩
  obtain ⟨w3, hw3⟩ : ∃ w3, w2.alloc (.cells #[.func (.func fr) #[] #[]] 133) = w3 := ⟨_, rfl⟩
  obtain ⟨w4, hw4⟩ : ∃ w4, w3.alloc (.cells #[.func (.func fs) #[] #[.pointer (some ⟨br, 0, none⟩)]] 134) = w4 := ⟨_, rfl⟩
  have hs1 : w1.heap.size = w.heap.size + 1 := by rw [← hw1]; simp
  have hs2 : w2.heap.size = w.heap.size + 2 := by rw [← hw2]; simp; omega
  have hs3 : w3.heap.size = w.heap.size + 3 := by rw [← hw3]; simp; omega
  have hs4 : w4.heap.size = w.heap.size + 4 := by rw [← hw4]; simp; omega
  have b1 : Blk w4 w.heap.size 28 #[.slice A n c] := by rw [← hw4, ← hw3, ← hw2, ← hw1]; exact (((Blk.new w 28 _).alloc _).alloc _).alloc _
  have b2 : Blk w4 w1.heap.size 132 #[.func (.func fw) #[] #[]] := by rw [← hw4, ← hw3, ← hw2]; exact ((Blk.new w1 132 _).alloc _).alloc _
  have b3 : Blk w4 w2.heap.size 133 #[.func (.func fr) #[] #[]] := by rw [← hw4, ← hw3]; exact (Blk.new w2 133 _).alloc _
  have b4 : Blk w4 w3.heap.size 134 #[.func (.func fs) #[] #[.pointer (some ⟨br, 0, none⟩)]] := by rw [← hw4]; exact Blk.new w3 134 _
  have hB : Below w.heap.size w w4 := by rw [← hw4, ← hw3, ← hw2, ← hw1]; exact ((((Below.refl _ _).alloc (Nat.le_refl _) _).alloc (by simp) _).alloc (by simp; omega) _).alloc (by simp; omega) _
  have HALL := Lib.hid (show Blk w4 w.heap.size 28 #[.slice A n c] ∧ Blk w4 w1.heap.size 132 #[.func (.func fw) #[] #[]] ∧ Blk w4 w2.heap.size 133 #[.func (.func fr) #[] #[]] ∧ Blk w4 w3.heap.size 134 #[.func (.func fs) #[] #[.pointer (some ⟨br, 0, none⟩)]] ∧ Below w.heap.size w w4 ∧ w1.heap.size = w.heap.size + 1 ∧ w2.heap.size = w.heap.size + 2 ∧ w3.heap.size = w.heap.size + 3 ∧ w4.heap.size = w.heap.size + 4 from ⟨b1, b2, b3, b4, hB, hs1, hs2, hs3, hs4⟩)
  have c0 := (b1.alloc (.cells #[.bool false, .bool false, .nilFunc, .nilFunc] 87)).cell 0
  simp only [List.getElem?_toArray, List.getElem?_cons_zero] at c0
  clear hz b1 b2 b3 b4 hs1 hs2 hs3 hs4 hB
  go_enter Tryz.func85, Tryz.ntmps85
  go_wp2
  go_returns
  obtain ⟨a1, a2, a3, a4, hb, d1, d2, d3, d4⟩ := HALL.out
  refine ⟨by rw [d1, d2, d3], hb.alloc (by omega) _, a1.alloc _, ?_, ?_, ?_, by simp; omega⟩
  · rw [← d1]; exact a2.alloc _
  · rw [← d2]; exact a3.alloc _
  · rw [← d3]; exact a4.alloc _

set_option maxHeartbeats 2000000 in
set_option maxRecDepth 100000 in
theorem listDV_any (w : World) (u : Bool) (A : Option Addr) (n c fw fr fs br : Nat) : Calls Tryz.prog 89 #[.bool u, .slice A n c, .func (.func fw) #[] #[], .func (.func fr) #[] #[], .func (.func fs) #[] #[.pointer (some ⟨br, 0, none⟩)]] w fun e w' =>
    e = .returned (.agg #[.bool u, .bool (decide (n = 0)), .func (.func 123) #[] #[.pointer (some ⟨w.heap.size, 0, none⟩), .pointer (some ⟨(w.heap.size + 1), 0, none⟩)], .func (.func 125) #[] #[.pointer (some ⟨(w.heap.size + 3), 0, none⟩), .pointer (some ⟨(w.heap.size + 2), 0, none⟩)]]) ∧ Below w.heap.size w w' ∧
      Blk w' w.heap.size 29 #[.slice A n c] ∧ Blk w' (w.heap.size + 1) 136 #[.func (.func fw) #[] #[]] ∧ Blk w' (w.heap.size + 2) 137 #[.func (.func fr) #[] #[]] ∧ Blk w' (w.heap.size + 3) 138 #[.func (.func fs) #[] #[.pointer (some ⟨br, 0, none⟩)]] ∧ w'.heap.size = w.heap.size + 5 := by
  have hmf : ∀ (fn : Fn) (first cap : Array Value) (w : World), (Instr.makeFunc fn first cap).run Tryz.prog w = .ok (.func fn first cap) w := fun _ _ _ _ => rfl
  obtain ⟨z, hz⟩ : ∃ z, z = decide (n = 0) := ⟨_, rfl⟩
  have e0 : ((n : Int) == 0) = z := by rw [hz, Bool.eq_iff_iff, beq_iff_eq, decide_eq_true_eq]; omega
  rw [← hz]
  obtain ⟨w1, hw1⟩ : ∃ w1, w.alloc (.cells #[.slice A n c] 29) = w1 := ⟨_, rfl⟩
  obtain ⟨w2, hw2⟩ : ∃ w2, w1.alloc (.cells #[.func (.func fw) #[] #[]] 136) = w2 := ⟨_, rfl⟩
  obtain ⟨w3, hw3⟩ : ∃ w3, w2.alloc (.cells #[.func (.func fr) #[] #[]] 137) = w3 := ⟨_, rfl⟩
  obtain ⟨w4, hw4⟩ : ∃ w4, w3.alloc (.cells #[.func (.func fs) #[] #[.pointer (some ⟨br, 0, none⟩)]] 138) = w4 := ⟨_, rfl⟩
  have hs1 : w1.heap.size = w.heap.size + 1 := by rw [← hw1]; simp
  have hs2 : w2.heap.size = w.heap.size + 2 := by rw [← hw2]; simp; omega
  have hs3 : w3.heap.size = w.heap.size + 3 := by rw [← hw3]; simp; omega
  have hs4 : w4.heap.size = w.heap.size + 4 := by rw [← hw4]; simp; omega
  have b1 : Blk w4 w.heap.size 29 #[.slice A n c] := by rw [← hw4, ← hw3, ← hw2, ← hw1]; exact (((Blk.new w 29 _).alloc _).alloc _).alloc _
  have b2 : Blk w4 w1.heap.size 136 #[.func (.func fw) #[] #[]] := by rw [← hw4, ← hw3, ← hw2]; exact ((Blk.new w1 136 _).alloc _).alloc _
  have b3 : Blk w4 w2.heap.size 137 #[.func (.func fr) #[] #[]] := by rw [← hw4, ← hw3]; exact (Blk.new w2 137 _).alloc _
  have b4 : Blk w4 w3.heap.size 138 #[.func (.func fs) #[] #[.pointer (some ⟨br, 0, none⟩)]] := by rw [← hw4]; exact Blk.new w3 138 _
  have hB : Below w.heap.size w w4 := by rw [← hw4, ← hw3, ← hw2, ← hw1]; exact ((((Below.refl _ _).alloc (Nat.le_refl _) _).alloc (by simp) _).alloc (by simp; omega) _).alloc (by simp; omega) _
  have HALL := Lib.hid (show Blk w4 w.heap.size 29 #[.slice A n c] ∧ Blk w4 w1.heap.size 136 #[.func (.func fw) #[] #[]] ∧ Blk w4 w2.heap.size 137 #[.func (.func fr) #[] #[]] ∧ Blk w4 w3.heap.size 138 #[.func (.func fs) #[] #[.pointer (some ⟨br, 0, none⟩)]] ∧ Below w.heap.size w w4 ∧ w1.heap.size = w.heap.size + 1 ∧ w2.heap.size = w.heap.size + 2 ∧ w3.heap.size = w.heap.size + 3 ∧ w4.heap.size = w.heap.size + 4 from ⟨b1, b2, b3, b4, hB, hs1, hs2, hs3, hs4⟩)
  have c0 := (b1.alloc (.cells #[.bool false, .bool false, .nilFunc, .nilFunc] 87)).cell 0
  simp only [List.getElem?_toArray, List.getElem?_cons_zero] at c0
  clear hz b1 b2 b3 b4 hs1 hs2 hs3 hs4 hB
  go_enter Tryz.func89, Tryz.ntmps89
  go_wp2
  go_returns
  obtain ⟨a1, a2, a3, a4, hb, d1, d2, d3, d4⟩ := HALL.out
  refine ⟨by rw [d1, d2, d3], hb.alloc (by omega) _, a1.alloc _, ?_, ?_, ?_, by simp; omega⟩
  · rw [← d1]; exact a2.alloc _
  · rw [← d2]; exact a3.alloc _
  · rw [← d3]; exact a4.alloc _
end Go.Proofs.YtdhgbkibbileiaaGreat
