/-
STAGE 8: answer.
-/
import Derived.Test.YtcajidlekfkjlaaNA
namespace Go.Proofs.Ytcajidlekfkjlaa
open Go.RowKit

set_option maxRecDepth 100000 in
theorem hmf_ : ∀ (fn : Fn) (first cap : Array Value) (w : World), (Instr.makeFunc fn first cap).run Try.prog w = .ok (.func fn first cap) w := fun _ _ _ _ => rfl
set_option maxRecDepth 100000 in
theorem neq20 (c : Int) : ∀ w : World, (binOp .neq 20 (fltV c) .nilIface).run Try.prog w = .ok (.bool true) w := fun _ => by kernel_rfl
set_option maxRecDepth 100000 in
theorem neq20n : ∀ w : World, (binOp .neq 20 .nilIface .nilIface).run Try.prog w = .ok (.bool false) w := fun _ => by kernel_rfl
/-- where the two results of answer lie -/
def ansW (w : World) (z : Value) (T : TypeId) : World := (w.alloc (.cells #[z] T)).alloc (.cells #[.int .i64 0] 24)
set_option maxRecDepth 100000 in
theorem ansW_size (w : World) (z : Value) (T : TypeId) : (ansW w z T).heap.size = w.heap.size + 2 := by simp [ansW]
set_option maxRecDepth 100000 in
theorem ansW_below (w : World) (z : Value) (T : TypeId) : Below w.heap.size w (ansW w z T) := ((Below.refl _ _).alloc (Nat.le_refl _) _).alloc (by simp) _
set_option maxRecDepth 100000 in
theorem ansW_blk (w : World) (z : Value) (T : TypeId) : Blk (ansW w z T) w.heap.size T #[z] ∧ Blk (ansW w z T) (w.heap.size + 1) 24 #[.int .i64 0] :=
  ⟨(Blk.new w T _).alloc _, by have := Blk.new (w.alloc (.cells #[z] T)) 24 #[.int .i64 0]; rwa [World.size_alloc] at this⟩
set_option maxRecDepth 100000 in
theorem ansW_at (w w1 : World) (z : Value) (T : TypeId) (hb : Below (ansW w z T).heap.size (ansW w z T) w1) : Blk w1 w.heap.size T #[z] ∧ Blk w1 (w.heap.size + 1) 24 #[.int .i64 0] :=
  have hs := ansW_size w z T
  ⟨(ansW_blk w z T).1.below hb (by omega), (ansW_blk w z T).2.below hb (by omega)⟩
/-- what answer has written of its own -/
def AnsS (w : World) : Nat → Prop := fun b => b = w.heap.size ∨ b = w.heap.size + 1
/-- what answer answers where nothing came up -/
def AnsQ (R : Value → World → Prop) (w : World) (e : Ending) (w' : World) : Prop := ∃ v, e = .returned (.tuple #[v, .int .i64 0]) ∧ Below w.heap.size w w' ∧ ∃ W, R v W ∧ w.heap.size + 2 ≤ W.heap.size ∧ Fr W w' (AnsS w)
set_option maxRecDepth 100000 in
theorem ans_end (w w1 W : World) (z : Value) (T : TypeId) (x y : Value) (hb : Below (ansW w z T).heap.size (ansW w z T) w1) (hW : Below w1.heap.size w1 W) :
    Below w.heap.size w ((W.setCell ⟨w.heap.size, 0, none⟩ x).setCell ⟨w.heap.size + 1, 0, none⟩ y) ∧ Fr W ((W.setCell ⟨w.heap.size, 0, none⟩ x).setCell ⟨w.heap.size + 1, 0, none⟩ y) (AnsS w) := by
  have hs := ansW_size w z T
  have h1 : Below w.heap.size w W := ((ansW_below w z T).trans (hb.mono (by omega))).trans (hW.mono (by have := hb.size; omega))
  exact ⟨(h1.setCell (p := ⟨w.heap.size, 0, none⟩) (Nat.le_refl _) _).setCell (p := ⟨w.heap.size + 1, 0, none⟩) (by simp) _,
    ((Fr.refl W (AnsS w)).setCell (p := ⟨w.heap.size, 0, none⟩) (Or.inl (Or.inl rfl)) _).setCell (p := ⟨w.heap.size + 1, 0, none⟩) (Or.inl (Or.inr rfl)) _⟩
set_option maxRecDepth 100000 in
theorem catch93 (a b : Addr) (x y : Value) (c : Int) (older : List PanicEntry) (w : World) (hx : w.cell? a = some x) (hy : w.cell? b = some y) (fa : w.frozen? a = false) (fb : w.frozen? b = false) (hab : a.block ≠ b.block) :
    CallsD Try.prog 45 #[.pointer (some a), .pointer (some b)] (.panicking ({ v := fltV c, recovered := false } :: older)) w fun e u' w' =>
      e = .returned (.tuple #[]) ∧ u' = .panicking ({ v := fltV c, recovered := true } :: older) ∧ ∃ W, Below w.heap.size w W ∧ w' = (W.setCell a (.slice none 0 0)).setCell b (.int .i64 c) := by
  have hlt1 : a.block < w.heap.size := World.block_lt_of_cell? w _ hx
  have hlt2 : b.block < w.heap.size := World.block_lt_of_cell? w _ hy
  unfold fltV
  refine callsD_of_wpS Try.func45 rfl fun c₀ cs hu => ?_
  apply wpS_seq
  apply wpS_region
  simp [wpOpsS, go_sem, recoverD, hu, Try.ntmps45, Exit.thenS]
  refine wpS_of_wp ?_
  simp only [Array.replicate_succ, Array.replicate_zero, List.push_toArray, List.setIfInBounds_toArray, List.append_toArray, List.nil_append, List.cons_append, List.set_cons_succ, List.set_cons_zero]
  have HC := codeOf_any c w
  unfold fltV at HC
  go_wp2_with fail
  refine HC.mono ?_
  rintro e w1 ⟨rfl, hb⟩
  have hx1 : w1.cell? a = some x := (hb.cell hlt1).trans hx
  have hy1 : w1.cell? b = some y := (hb.cell hlt2).trans hy
  have fa1 : w1.frozen? a = false := (hb.frozen hlt1).trans fa
  have fb1 : w1.frozen? b = false := (hb.frozen hlt2).trans fb
  have hy2 : (w1.setCell a (.slice none 0 0)).cell? b = some y := (World.cell?_setCell_other w1 a b _ (fun e => hab (by rw [e]))).trans hy1
  have fb2 : (w1.setCell a (.slice none 0 0)).frozen? b = false := by rw [World.frozen?_setCell]; exact fb1
  go_wp2_with fail
  have H : ∃ W, Below w.heap.size w W ∧ (w1.setCell a (Value.slice none 0 0)).setCell b (Value.int IntKind.i64 c) = (W.setCell a (Value.slice none 0 0)).setCell b (Value.int IntKind.i64 c) := ⟨w1, hb, rfl⟩
  cases c₀
  simp_all [bodyPostS, results, Try.results45]
set_option maxRecDepth 100000 in
theorem idle93 (a b : Addr) (w : World) :
    CallsD Try.prog 45 #[.pointer (some a), .pointer (some b)] .returning w fun e u' w' => e = .returned (.tuple #[]) ∧ u' = .returning ∧ w' = w := by
  have hne := neq20n
  refine callsD_of_wpS Try.func45 rfl fun c₀ cs hu => ?_
  apply wpS_seq
  apply wpS_region
  simp [wpOpsS, go_sem, recoverD, hu, Try.ntmps45, Exit.thenS]
  refine wpS_of_wp ?_
  simp only [Array.replicate_succ, Array.replicate_zero, List.push_toArray, List.setIfInBounds_toArray, List.append_toArray, List.nil_append, List.cons_append, List.set_cons_succ, List.set_cons_zero]
  go_wp2_with fail
  cases c₀
  simp_all [bodyPostS, results, Try.results45]
set_option maxHeartbeats 1000000 in
set_option maxRecDepth 100000 in
theorem answer50_57_no (p q r : Value) (c : Int) (w : World) (h : Calls Try.prog 22 #[p, q, r] (ansW w (.slice none 0 0) 30) fun e w' => e = Flt c ∧ Below (ansW w (.slice none 0 0) 30).heap.size (ansW w (.slice none 0 0) 30) w') :
    Calls Try.prog 21 #[.func (.func 22) #[] #[p, q, r]] w fun e w' => e = .returned (.tuple #[.slice none 0 0, .int .i64 c]) ∧ Below w.heap.size w w' := by
  have hmf := hmf_
  unfold Flt at h
  go_enter_defers Try.func21, Try.ntmps21
  go_wp2_with fail
  refine h.mono ?_
  rintro e w1 ⟨rfl, hb⟩
  go_wp2_with fail
  obtain ⟨b1, b2⟩ := ansW_at w w1 _ _ hb
  refine leaves_cons (f := 45) (args := #[.pointer (some ⟨w.heap.size, 0, none⟩), .pointer (some ⟨w.heap.size + 1, 0, none⟩)]) (by simp) (by simp [go_sem]) ?_
  refine (catch93 _ _ _ _ c [] w1 (b1.cell 0) (b2.cell 0) (b1.frozen 0) (b2.frozen 0) (by simp)).mono ?_
  rintro e u' w'' ⟨rfl, rfl, W, hW, rfl⟩
  obtain ⟨hz, _⟩ := ans_end w w1 W _ _ (.slice none 0 0) (.int .i64 c) hb hW
  have c1 := ((b1.below hW b1.lt).set_ 0 (.slice none 0 0)).far (p := ⟨w.heap.size + 1, 0, none⟩) (by simp) (.int .i64 c)
  have c2 := ((b2.below hW b2.lt).far (p := ⟨w.heap.size, 0, none⟩) (by simp) (.slice none 0 0)).set_ 0 (.int .i64 c)
  have d1 := c1.cell 0
  have d2 := c2.cell 0
  simp [Leaves, settle, results, Try.results21, go_sem, d1, d2, hz]
set_option maxHeartbeats 1000000 in
set_option maxRecDepth 100000 in
theorem answer50_57_yes (p q r : Value) (R : Value → World → Prop) (w : World) (h : Calls Try.prog 22 #[p, q, r] (ansW w (.slice none 0 0) 30) fun e w' => ∃ (A : Option Addr) (n k : Nat), e = .returned (.slice A n k) ∧ R (.slice A n k) w' ∧ Below (ansW w (.slice none 0 0) 30).heap.size (ansW w (.slice none 0 0) 30) w') :
    Calls Try.prog 21 #[.func (.func 22) #[] #[p, q, r]] w (AnsQ R w) := by
  have hmf := hmf_
  go_enter_defers Try.func21, Try.ntmps21
  go_wp2_with fail
  refine h.mono ?_
  rintro e w1 ⟨A, n, k, rfl, hR, hb⟩
  obtain ⟨b1, b2⟩ := ansW_at w w1 _ _ hb
  have d1 := b1.cell 0
  have d2 := b2.cell 0
  have f1 := b1.frozen 0
  have f2 := b2.frozen 0
  obtain ⟨hz, hfr⟩ := ans_end w w1 w1 _ _ (.slice A n k) (.int .i64 0) hb (Below.refl _ _)
  have hsz : w.heap.size + 2 ≤ w1.heap.size := by have := hb.size; rw [ansW_size] at this; exact this
  have c1 := (b1.set_ 0 (.slice A n k)).far (p := ⟨w.heap.size + 1, 0, none⟩) (by simp) (.int .i64 0)
  have c2' := b2.far (p := ⟨w.heap.size, 0, none⟩) (by simp) (.slice A n k)
  have c2 := c2'.set_ 0 (.int .i64 0)
  have e2 := c2'.cell 0
  have g2 := c2'.frozen 0
  have HZ := Lib.hid hz
  have HF := Lib.hid hfr
  have C1 := Lib.hid c1
  have C2 := Lib.hid c2
  clear hz hfr c1 c2 c2' b1 b2 h
  go_wp2_with fail
  refine leaves_cons (f := 45) (args := #[.pointer (some ⟨w.heap.size, 0, none⟩), .pointer (some ⟨w.heap.size + 1, 0, none⟩)]) (by simp) (by simp [go_sem]) ?_
  refine (idle93 _ _ _).mono ?_
  rintro e u' w'' ⟨rfl, rfl, rfl⟩
  have r1 := C1.out.cell 0
  have r2 := C2.out.cell 0
  simp [Leaves, settle, results, Try.results21, go_sem, r1, r2]
  exact ⟨_, rfl, HZ.out, w1, hR, hsz, HF.out⟩
set_option maxRecDepth 100000 in
theorem catch73 (a b : Addr) (x y : Value) (c : Int) (older : List PanicEntry) (w : World) (hx : w.cell? a = some x) (hy : w.cell? b = some y) (fa : w.frozen? a = false) (fb : w.frozen? b = false) (hab : a.block ≠ b.block) :
    CallsD Try.prog 55 #[.pointer (some a), .pointer (some b)] (.panicking ({ v := fltV c, recovered := false } :: older)) w fun e u' w' =>
      e = .returned (.tuple #[]) ∧ u' = .panicking ({ v := fltV c, recovered := true } :: older) ∧ ∃ W, Below w.heap.size w W ∧ w' = (W.setCell a (.int .i64 0)).setCell b (.int .i64 c) := by
  have hlt1 : a.block < w.heap.size := World.block_lt_of_cell? w _ hx
  have hlt2 : b.block < w.heap.size := World.block_lt_of_cell? w _ hy
  unfold fltV
  refine callsD_of_wpS Try.func55 rfl fun c₀ cs hu => ?_
  apply wpS_seq
  apply wpS_region
  simp [wpOpsS, go_sem, recoverD, hu, Try.ntmps55, Exit.thenS]
  refine wpS_of_wp ?_
  simp only [Array.replicate_succ, Array.replicate_zero, List.push_toArray, List.setIfInBounds_toArray, List.append_toArray, List.nil_append, List.cons_append, List.set_cons_succ, List.set_cons_zero]
  have HC := codeOf_any c w
  unfold fltV at HC
  go_wp2_with fail
  refine HC.mono ?_
  rintro e w1 ⟨rfl, hb⟩
  have hx1 : w1.cell? a = some x := (hb.cell hlt1).trans hx
  have hy1 : w1.cell? b = some y := (hb.cell hlt2).trans hy
  have fa1 : w1.frozen? a = false := (hb.frozen hlt1).trans fa
  have fb1 : w1.frozen? b = false := (hb.frozen hlt2).trans fb
  have hy2 : (w1.setCell a (.int .i64 0)).cell? b = some y := (World.cell?_setCell_other w1 a b _ (fun e => hab (by rw [e]))).trans hy1
  have fb2 : (w1.setCell a (.int .i64 0)).frozen? b = false := by rw [World.frozen?_setCell]; exact fb1
  go_wp2_with fail
  have H : ∃ W, Below w.heap.size w W ∧ (w1.setCell a (Value.int .i64 0)).setCell b (Value.int IntKind.i64 c) = (W.setCell a (Value.int .i64 0)).setCell b (Value.int IntKind.i64 c) := ⟨w1, hb, rfl⟩
  cases c₀
  simp_all [bodyPostS, results, Try.results55]
set_option maxRecDepth 100000 in
theorem idle73 (a b : Addr) (w : World) :
    CallsD Try.prog 55 #[.pointer (some a), .pointer (some b)] .returning w fun e u' w' => e = .returned (.tuple #[]) ∧ u' = .returning ∧ w' = w := by
  have hne := neq20n
  refine callsD_of_wpS Try.func55 rfl fun c₀ cs hu => ?_
  apply wpS_seq
  apply wpS_region
  simp [wpOpsS, go_sem, recoverD, hu, Try.ntmps55, Exit.thenS]
  refine wpS_of_wp ?_
  simp only [Array.replicate_succ, Array.replicate_zero, List.push_toArray, List.setIfInBounds_toArray, List.append_toArray, List.nil_append, List.cons_append, List.set_cons_succ, List.set_cons_zero]
  go_wp2_with fail
  cases c₀
  simp_all [bodyPostS, results, Try.results55]
set_option maxHeartbeats 1000000 in
set_option maxRecDepth 100000 in
theorem answer37_38_no (p q r : Value) (c : Int) (w : World) (h : Calls Try.prog 42 #[p, q, r] (ansW w (.int .i64 0) 3) fun e w' => e = Flt c ∧ Below (ansW w (.int .i64 0) 3).heap.size (ansW w (.int .i64 0) 3) w') :
    Calls Try.prog 34 #[.func (.func 42) #[] #[p, q, r]] w fun e w' => e = .returned (.tuple #[.int .i64 0, .int .i64 c]) ∧ Below w.heap.size w w' := by
  have hmf := hmf_
  unfold Flt at h
  go_enter_defers Try.func34, Try.ntmps34
  go_wp2_with fail
  refine h.mono ?_
  rintro e w1 ⟨rfl, hb⟩
  go_wp2_with fail
  obtain ⟨b1, b2⟩ := ansW_at w w1 _ _ hb
  refine leaves_cons (f := 55) (args := #[.pointer (some ⟨w.heap.size, 0, none⟩), .pointer (some ⟨w.heap.size + 1, 0, none⟩)]) (by simp) (by simp [go_sem]) ?_
  refine (catch73 _ _ _ _ c [] w1 (b1.cell 0) (b2.cell 0) (b1.frozen 0) (b2.frozen 0) (by simp)).mono ?_
  rintro e u' w'' ⟨rfl, rfl, W, hW, rfl⟩
  obtain ⟨hz, _⟩ := ans_end w w1 W _ _ (.int .i64 0) (.int .i64 c) hb hW
  have c1 := ((b1.below hW b1.lt).set_ 0 (.int .i64 0)).far (p := ⟨w.heap.size + 1, 0, none⟩) (by simp) (.int .i64 c)
  have c2 := ((b2.below hW b2.lt).far (p := ⟨w.heap.size, 0, none⟩) (by simp) (.int .i64 0)).set_ 0 (.int .i64 c)
  have d1 := c1.cell 0
  have d2 := c2.cell 0
  simp [Leaves, settle, results, Try.results34, go_sem, d1, d2, hz]
set_option maxHeartbeats 1000000 in
set_option maxRecDepth 100000 in
theorem answer37_38_yes (p q r : Value) (R : Value → World → Prop) (w : World) (h : Calls Try.prog 42 #[p, q, r] (ansW w (.int .i64 0) 3) fun e w' => ∃ (k : Int), e = .returned (.int .i64 k) ∧ R (.int .i64 k) w' ∧ Below (ansW w (.int .i64 0) 3).heap.size (ansW w (.int .i64 0) 3) w') :
    Calls Try.prog 34 #[.func (.func 42) #[] #[p, q, r]] w (AnsQ R w) := by
  have hmf := hmf_
  go_enter_defers Try.func34, Try.ntmps34
  go_wp2_with fail
  refine h.mono ?_
  rintro e w1 ⟨k, rfl, hR, hb⟩
  obtain ⟨b1, b2⟩ := ansW_at w w1 _ _ hb
  have d1 := b1.cell 0
  have d2 := b2.cell 0
  have f1 := b1.frozen 0
  have f2 := b2.frozen 0
  obtain ⟨hz, hfr⟩ := ans_end w w1 w1 _ _ (.int .i64 k) (.int .i64 0) hb (Below.refl _ _)
  have hsz : w.heap.size + 2 ≤ w1.heap.size := by have := hb.size; rw [ansW_size] at this; exact this
  have c1 := (b1.set_ 0 (.int .i64 k)).far (p := ⟨w.heap.size + 1, 0, none⟩) (by simp) (.int .i64 0)
  have c2' := b2.far (p := ⟨w.heap.size, 0, none⟩) (by simp) (.int .i64 k)
  have c2 := c2'.set_ 0 (.int .i64 0)
  have e2 := c2'.cell 0
  have g2 := c2'.frozen 0
  have HZ := Lib.hid hz
  have HF := Lib.hid hfr
  have C1 := Lib.hid c1
  have C2 := Lib.hid c2
  clear hz hfr c1 c2 c2' b1 b2 h
  go_wp2_with fail
  refine leaves_cons (f := 55) (args := #[.pointer (some ⟨w.heap.size, 0, none⟩), .pointer (some ⟨w.heap.size + 1, 0, none⟩)]) (by simp) (by simp [go_sem]) ?_
  refine (idle73 _ _ _).mono ?_
  rintro e u' w'' ⟨rfl, rfl, rfl⟩
  have r1 := C1.out.cell 0
  have r2 := C2.out.cell 0
  simp [Leaves, settle, results, Try.results34, go_sem, r1, r2]
  exact ⟨_, rfl, HZ.out, w1, hR, hsz, HF.out⟩
set_option maxHeartbeats 1000000 in
set_option maxRecDepth 100000 in
theorem answer37_55_no (p q : Value) (c : Int) (w : World) (h : Calls Try.prog 35 #[p, q] (ansW w (.int .i64 0) 3) fun e w' => e = Flt c ∧ Below (ansW w (.int .i64 0) 3).heap.size (ansW w (.int .i64 0) 3) w') :
    Calls Try.prog 34 #[.func (.func 35) #[] #[p, q]] w fun e w' => e = .returned (.tuple #[.int .i64 0, .int .i64 c]) ∧ Below w.heap.size w w' := by
  have hmf := hmf_
  unfold Flt at h
  go_enter_defers Try.func34, Try.ntmps34
  go_wp2_with fail
  refine h.mono ?_
  rintro e w1 ⟨rfl, hb⟩
  go_wp2_with fail
  obtain ⟨b1, b2⟩ := ansW_at w w1 _ _ hb
  refine leaves_cons (f := 55) (args := #[.pointer (some ⟨w.heap.size, 0, none⟩), .pointer (some ⟨w.heap.size + 1, 0, none⟩)]) (by simp) (by simp [go_sem]) ?_
  refine (catch73 _ _ _ _ c [] w1 (b1.cell 0) (b2.cell 0) (b1.frozen 0) (b2.frozen 0) (by simp)).mono ?_
  rintro e u' w'' ⟨rfl, rfl, W, hW, rfl⟩
  obtain ⟨hz, _⟩ := ans_end w w1 W _ _ (.int .i64 0) (.int .i64 c) hb hW
  have c1 := ((b1.below hW b1.lt).set_ 0 (.int .i64 0)).far (p := ⟨w.heap.size + 1, 0, none⟩) (by simp) (.int .i64 c)
  have c2 := ((b2.below hW b2.lt).far (p := ⟨w.heap.size, 0, none⟩) (by simp) (.int .i64 0)).set_ 0 (.int .i64 c)
  have d1 := c1.cell 0
  have d2 := c2.cell 0
  simp [Leaves, settle, results, Try.results34, go_sem, d1, d2, hz]
set_option maxHeartbeats 1000000 in
set_option maxRecDepth 100000 in
theorem answer37_55_yes (p q : Value) (R : Value → World → Prop) (w : World) (h : Calls Try.prog 35 #[p, q] (ansW w (.int .i64 0) 3) fun e w' => ∃ (k : Int), e = .returned (.int .i64 k) ∧ R (.int .i64 k) w' ∧ Below (ansW w (.int .i64 0) 3).heap.size (ansW w (.int .i64 0) 3) w') :
    Calls Try.prog 34 #[.func (.func 35) #[] #[p, q]] w (AnsQ R w) := by
  have hmf := hmf_
  go_enter_defers Try.func34, Try.ntmps34
  go_wp2_with fail
  refine h.mono ?_
  rintro e w1 ⟨k, rfl, hR, hb⟩
  obtain ⟨b1, b2⟩ := ansW_at w w1 _ _ hb
  have d1 := b1.cell 0
  have d2 := b2.cell 0
  have f1 := b1.frozen 0
  have f2 := b2.frozen 0
  obtain ⟨hz, hfr⟩ := ans_end w w1 w1 _ _ (.int .i64 k) (.int .i64 0) hb (Below.refl _ _)
  have hsz : w.heap.size + 2 ≤ w1.heap.size := by have := hb.size; rw [ansW_size] at this; exact this
  have c1 := (b1.set_ 0 (.int .i64 k)).far (p := ⟨w.heap.size + 1, 0, none⟩) (by simp) (.int .i64 0)
  have c2' := b2.far (p := ⟨w.heap.size, 0, none⟩) (by simp) (.int .i64 k)
  have c2 := c2'.set_ 0 (.int .i64 0)
  have e2 := c2'.cell 0
  have g2 := c2'.frozen 0
  have HZ := Lib.hid hz
  have HF := Lib.hid hfr
  have C1 := Lib.hid c1
  have C2 := Lib.hid c2
  clear hz hfr c1 c2 c2' b1 b2 h
  go_wp2_with fail
  refine leaves_cons (f := 55) (args := #[.pointer (some ⟨w.heap.size, 0, none⟩), .pointer (some ⟨w.heap.size + 1, 0, none⟩)]) (by simp) (by simp [go_sem]) ?_
  refine (idle73 _ _ _).mono ?_
  rintro e u' w'' ⟨rfl, rfl, rfl⟩
  have r1 := C1.out.cell 0
  have r2 := C2.out.cell 0
  simp [Leaves, settle, results, Try.results34, go_sem, r1, r2]
  exact ⟨_, rfl, HZ.out, w1, hR, hsz, HF.out⟩
set_option maxRecDepth 100000 in
theorem catch86 (a b : Addr) (x y : Value) (c : Int) (older : List PanicEntry) (w : World) (hx : w.cell? a = some x) (hy : w.cell? b = some y) (fa : w.frozen? a = false) (fb : w.frozen? b = false) (hab : a.block ≠ b.block) :
    CallsD Try.prog 59 #[.pointer (some a), .pointer (some b)] (.panicking ({ v := fltV c, recovered := false } :: older)) w fun e u' w' =>
      e = .returned (.tuple #[]) ∧ u' = .panicking ({ v := fltV c, recovered := true } :: older) ∧ ∃ W, Below w.heap.size w W ∧ w' = (W.setCell a (.slice none 0 0)).setCell b (.int .i64 c) := by
  have hlt1 : a.block < w.heap.size := World.block_lt_of_cell? w _ hx
  have hlt2 : b.block < w.heap.size := World.block_lt_of_cell? w _ hy
  unfold fltV
  refine callsD_of_wpS Try.func59 rfl fun c₀ cs hu => ?_
  apply wpS_seq
  apply wpS_region
  simp [wpOpsS, go_sem, recoverD, hu, Try.ntmps59, Exit.thenS]
  refine wpS_of_wp ?_
  simp only [Array.replicate_succ, Array.replicate_zero, List.push_toArray, List.setIfInBounds_toArray, List.append_toArray, List.nil_append, List.cons_append, List.set_cons_succ, List.set_cons_zero]
  have HC := codeOf_any c w
  unfold fltV at HC
  go_wp2_with fail
  refine HC.mono ?_
  rintro e w1 ⟨rfl, hb⟩
  have hx1 : w1.cell? a = some x := (hb.cell hlt1).trans hx
  have hy1 : w1.cell? b = some y := (hb.cell hlt2).trans hy
  have fa1 : w1.frozen? a = false := (hb.frozen hlt1).trans fa
  have fb1 : w1.frozen? b = false := (hb.frozen hlt2).trans fb
  have hy2 : (w1.setCell a (.slice none 0 0)).cell? b = some y := (World.cell?_setCell_other w1 a b _ (fun e => hab (by rw [e]))).trans hy1
  have fb2 : (w1.setCell a (.slice none 0 0)).frozen? b = false := by rw [World.frozen?_setCell]; exact fb1
  go_wp2_with fail
  have H : ∃ W, Below w.heap.size w W ∧ (w1.setCell a (Value.slice none 0 0)).setCell b (Value.int IntKind.i64 c) = (W.setCell a (Value.slice none 0 0)).setCell b (Value.int IntKind.i64 c) := ⟨w1, hb, rfl⟩
  cases c₀
  simp_all [bodyPostS, results, Try.results59]
set_option maxRecDepth 100000 in
theorem idle86 (a b : Addr) (w : World) :
    CallsD Try.prog 59 #[.pointer (some a), .pointer (some b)] .returning w fun e u' w' => e = .returned (.tuple #[]) ∧ u' = .returning ∧ w' = w := by
  have hne := neq20n
  refine callsD_of_wpS Try.func59 rfl fun c₀ cs hu => ?_
  apply wpS_seq
  apply wpS_region
  simp [wpOpsS, go_sem, recoverD, hu, Try.ntmps59, Exit.thenS]
  refine wpS_of_wp ?_
  simp only [Array.replicate_succ, Array.replicate_zero, List.push_toArray, List.setIfInBounds_toArray, List.append_toArray, List.nil_append, List.cons_append, List.set_cons_succ, List.set_cons_zero]
  go_wp2_with fail
  cases c₀
  simp_all [bodyPostS, results, Try.results59]
set_option maxHeartbeats 1000000 in
set_option maxRecDepth 100000 in
theorem answer43_44_no (p q : Value) (c : Int) (w : World) (h : Calls Try.prog 38 #[p, q] (ansW w (.slice none 0 0) 42) fun e w' => e = Flt c ∧ Below (ansW w (.slice none 0 0) 42).heap.size (ansW w (.slice none 0 0) 42) w') :
    Calls Try.prog 37 #[.func (.func 38) #[] #[p, q]] w fun e w' => e = .returned (.tuple #[.slice none 0 0, .int .i64 c]) ∧ Below w.heap.size w w' := by
  have hmf := hmf_
  unfold Flt at h
  go_enter_defers Try.func37, Try.ntmps37
  go_wp2_with fail
  refine h.mono ?_
  rintro e w1 ⟨rfl, hb⟩
  go_wp2_with fail
  obtain ⟨b1, b2⟩ := ansW_at w w1 _ _ hb
  refine leaves_cons (f := 59) (args := #[.pointer (some ⟨w.heap.size, 0, none⟩), .pointer (some ⟨w.heap.size + 1, 0, none⟩)]) (by simp) (by simp [go_sem]) ?_
  refine (catch86 _ _ _ _ c [] w1 (b1.cell 0) (b2.cell 0) (b1.frozen 0) (b2.frozen 0) (by simp)).mono ?_
  rintro e u' w'' ⟨rfl, rfl, W, hW, rfl⟩
  obtain ⟨hz, _⟩ := ans_end w w1 W _ _ (.slice none 0 0) (.int .i64 c) hb hW
  have c1 := ((b1.below hW b1.lt).set_ 0 (.slice none 0 0)).far (p := ⟨w.heap.size + 1, 0, none⟩) (by simp) (.int .i64 c)
  have c2 := ((b2.below hW b2.lt).far (p := ⟨w.heap.size, 0, none⟩) (by simp) (.slice none 0 0)).set_ 0 (.int .i64 c)
  have d1 := c1.cell 0
  have d2 := c2.cell 0
  simp [Leaves, settle, results, Try.results37, go_sem, d1, d2, hz]
set_option maxHeartbeats 1000000 in
set_option maxRecDepth 100000 in
theorem answer43_44_yes (p q : Value) (R : Value → World → Prop) (w : World) (h : Calls Try.prog 38 #[p, q] (ansW w (.slice none 0 0) 42) fun e w' => ∃ (A : Option Addr) (n k : Nat), e = .returned (.slice A n k) ∧ R (.slice A n k) w' ∧ Below (ansW w (.slice none 0 0) 42).heap.size (ansW w (.slice none 0 0) 42) w') :
    Calls Try.prog 37 #[.func (.func 38) #[] #[p, q]] w (AnsQ R w) := by
  have hmf := hmf_
  go_enter_defers Try.func37, Try.ntmps37
  go_wp2_with fail
  refine h.mono ?_
  rintro e w1 ⟨A, n, k, rfl, hR, hb⟩
  obtain ⟨b1, b2⟩ := ansW_at w w1 _ _ hb
  have d1 := b1.cell 0
  have d2 := b2.cell 0
  have f1 := b1.frozen 0
  have f2 := b2.frozen 0
  obtain ⟨hz, hfr⟩ := ans_end w w1 w1 _ _ (.slice A n k) (.int .i64 0) hb (Below.refl _ _)
  have hsz : w.heap.size + 2 ≤ w1.heap.size := by have := hb.size; rw [ansW_size] at this; exact this
  have c1 := (b1.set_ 0 (.slice A n k)).far (p := ⟨w.heap.size + 1, 0, none⟩) (by simp) (.int .i64 0)
  have c2' := b2.far (p := ⟨w.heap.size, 0, none⟩) (by simp) (.slice A n k)
  have c2 := c2'.set_ 0 (.int .i64 0)
  have e2 := c2'.cell 0
  have g2 := c2'.frozen 0
  have HZ := Lib.hid hz
  have HF := Lib.hid hfr
  have C1 := Lib.hid c1
  have C2 := Lib.hid c2
  clear hz hfr c1 c2 c2' b1 b2 h
  go_wp2_with fail
  refine leaves_cons (f := 59) (args := #[.pointer (some ⟨w.heap.size, 0, none⟩), .pointer (some ⟨w.heap.size + 1, 0, none⟩)]) (by simp) (by simp [go_sem]) ?_
  refine (idle86 _ _ _).mono ?_
  rintro e u' w'' ⟨rfl, rfl, rfl⟩
  have r1 := C1.out.cell 0
  have r2 := C2.out.cell 0
  simp [Leaves, settle, results, Try.results37, go_sem, r1, r2]
  exact ⟨_, rfl, HZ.out, w1, hR, hsz, HF.out⟩
end Go.Proofs.Ytcajidlekfkjlaa
