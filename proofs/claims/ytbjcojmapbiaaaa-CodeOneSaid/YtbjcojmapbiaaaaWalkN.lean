/-
  THE WALK OF write: an item is written, and its bytes are answered.
-/
import Derived.Test.YtbjcojmapbiaaaaWalkM
import Derived.Lib.ConvBytes
namespace Go.Proofs.Ytbjcojmapbiaaaa
open Go.RowKit

/-- a number of 64 bits as a signed one -/
def sx (x : Nat) : Int := if x < 9223372036854775808 then (x : Int) else (x : Int) - 18446744073709551616
theorem sx_bd (x : Nat) (h : x < 18446744073709551616) : -9223372036854775808 ≤ sx x ∧ sx x ≤ 9223372036854775807 := by
  unfold sx; split <;> omega
theorem sx_wrap (x : Nat) (h : x < 18446744073709551616) : IntKind.i64.wrap (x : Int) = sx x := by
  rw [IntKind.wrap_i64]
  unfold sx
  split <;> omega
/-- the bytes of an item -/
def itB (it : It) : List Nat :=
  if it.k = 0 then Cd.fixB 1 it.x else if it.k = 1 then Cd.fixB 2 it.x else if it.k = 2 then Cd.fixB 4 it.x else if it.k = 3 then Cd.fixB 8 it.x
  else if it.k = 4 then Cd.vi it.x else if it.k = 5 then Cd.vi (Cd.zz (sx it.x)) else if it.k = 6 then Cd.tx (bs it.s) else if it.k = 7 then bs it.s else []
theorem itB_lt (it : It) : ∀ y ∈ itB it, y < 256 := by
  unfold itB
  split
  · exact Cd.fixB_lt _ _
  split
  · exact Cd.fixB_lt _ _
  split
  · exact Cd.fixB_lt _ _
  split
  · exact Cd.fixB_lt _ _
  split
  · exact Cd.vi_lt _
  split
  · exact Cd.vi_lt _
  split
  · intro y hy
    unfold Cd.tx at hy
    rcases List.mem_append.1 hy with hy | hy
    · exact Cd.vi_lt _ y hy
    · exact bs_lt _ y hy
  split
  · exact bs_lt _
  · simp
theorem itB_len (it : It) (h : it.Ok) : (itB it).length ≤ 10 + it.s.size := by
  unfold itB
  have hz := Cd.zz_lt (sx it.x) (sx_bd it.x h.x1).1 (sx_bd it.x h.x1).2
  split
  · rw [Cd.fixB_len]; omega
  split
  · rw [Cd.fixB_len]; omega
  split
  · rw [Cd.fixB_len]; omega
  split
  · rw [Cd.fixB_len]; omega
  split
  · have := Cd.vi_len10 it.x h.x1; omega
  split
  · have := Cd.vi_len10 _ hz; omega
  split
  · have := Cd.vi_len10 it.s.size (by have := h.s1; omega)
    unfold Cd.tx
    rw [List.length_append, bs_len]
    omega
  split
  · rw [bs_len]; omega
  · simp

/-- what write leaves: the bytes k can be read of what it answers, and have been written -/
def Wrt (w : World) (S : Nat → Prop) (p : Option Nat) (ok : Bool) (l k : List Nat) (e : Ending) (w' : World) : Prop :=
  ∃ A c, e = .returned (.slice A k.length c) ∧ RB w' (fun _ => True) A k.length k ∧ Wrote w S p ok l k w'
theorem Wr.up {w : World} {S : Nat → Prop} {p : Option Nat} {ok : Bool} {l : List Nat} (h : Wr w S p ok l) : Wr w (fun b => S b ∧ b < w.heap.size) p ok l := Wr.mono h fun _ hb hs => ⟨hs, hb⟩
theorem Wr.alloc {w : World} {S : Nat → Prop} {p : Option Nat} {ok : Bool} {l : List Nat} (h : Wr w S p ok l) (o : Obj) : Wr (w.alloc o) (fun b => S b ∧ b < w.heap.size) p ok l :=
  Wr.keep (Wr.up h) (T := No) ((Fr.refl w No).alloc o) fun _ _ hn => hn
/-- written behind a new block, read behind a new row -/
theorem Wrt.of {w w1 w2 : World} {S : Nat → Prop} {p : Option Nat} {ok : Bool} {l k : List Nat} {o : Obj} {v : Value} (h : Wrote (w.alloc o) (fun b => S b ∧ b < w.heap.size) p ok l k w1) (hn : New w1 k (.returned v) w2) : Wrt w S p ok l k (.returned v) w2 := by
  obtain ⟨h1, h2⟩ := h
  obtain ⟨v', e, ho, hb⟩ := hn
  injection e with e
  subst e
  obtain ⟨A, c, rfl, _, _, hr⟩ := ho.reads
  have hs := h2.size
  have hfb := Fr.of_below hb (fun b => w1.heap.size ≤ b)
  simp only [World.size_alloc] at hs
  refine ⟨A, c, rfl, hr.mono fun _ _ _ => trivial, ?_, ?_⟩
  · refine (Wr.keep (Wr.up h1) hfb fun b hb => by omega).mono fun b _ hb => ?_
    rcases hb.1 with hb | hb
    · exact Or.inl hb.1
    · simp only [World.size_alloc] at hb
      exact Or.inr (by omega)
  · have hf : Fr w w1 S := ((Fr.refl w S).alloc o).trans h2 fun b hb => Or.inl hb.1
    exact hf.trans hfb fun b hb => Or.inr (by have := hf.size; omega)
theorem fixB_mod (k x : Nat) : Cd.fixB k (x % 256 ^ k) = Cd.fixB k x := by
  induction k generalizing x with
  | zero => rfl
  | succ k ih =>
    have h1 : x % 256 ^ (k + 1) % 256 = x % 256 := by
      rw [Nat.pow_succ]
      exact Nat.mod_mod_of_dvd _ (Nat.dvd_mul_left _ _)
    have h2 : x % 256 ^ (k + 1) / 256 = x / 256 % 256 ^ k := by
      rw [Nat.pow_succ, Nat.mul_comm, Nat.mod_mul_right_div_self]
    simp only [Cd.fixB]
    rw [h1, h2, ih]

set_option maxRecDepth 100000 in
set_option maxHeartbeats 1000000 in
theorem write_k0 (w : World) (S : Nat → Prop) (p : Option Nat) (ok : Bool) (l : List Nat) (x : Nat) (s : ByteArray) (n : Int) (hx : x < 18446744073709551616) (hl : l.length ≤ 1099511627776) (h : Wr w S p ok l) :
    Calls Try.prog 12 #[ptr p, .agg #[.int .i64 0, .int .u64 (x : Int), .string s, .int .i64 n]] w (Wrt w S p ok l (Cd.fixB 1 x)) := by
  have HC := Lib.hid (wu8_any _ _ p ok l (x % 256) (by omega) hl (Wr.alloc h (.cells #[.int .i64 0, .int .u64 (x : Int), .string s, .int .i64 n] 31)))
  have HB := Lib.hid (Blk.new w 31 #[.int .i64 0, .int .u64 (x : Int), .string s, .int .i64 n])
  clear h
  go_enter Try.func12, Try.ntmps12
  go_wp2_with fail
  refine HC.out.mono ?_
  rintro e w1 ⟨rfl, hw⟩
  have hb1 : Blk w1 w.heap.size 31 _ := HB.out.keep hw.2 (by intro hh; exact absurd hh.2 (by omega))
  have hc1 := hb1.cell 1
  have hc2 := hb1.cell 2
  have HW := Lib.hid hw
  clear hw hb1
  go_wp2_with fail
  refine (rfixed_any w1 x 1 hx (by omega)).mono ?_
  rintro e w2 ⟨v, rfl, hv⟩
  have HV := Lib.hid hv
  clear hv
  go_wp2
  go_ret
  have hw := HW.out
  rw [show x % 256 = x % 256 ^ 1 from rfl, fixB_mod] at hw
  exact Wrt.of hw ⟨v, rfl, HV.out⟩

set_option maxRecDepth 100000 in
set_option maxHeartbeats 1000000 in
theorem write_k1 (w : World) (S : Nat → Prop) (p : Option Nat) (ok : Bool) (l : List Nat) (x : Nat) (s : ByteArray) (n : Int) (hx : x < 18446744073709551616) (hl : l.length ≤ 1099511627776) (h : Wr w S p ok l) :
    Calls Try.prog 12 #[ptr p, .agg #[.int .i64 1, .int .u64 (x : Int), .string s, .int .i64 n]] w (Wrt w S p ok l (Cd.fixB 2 x)) := by
  have HC := Lib.hid (wu16_any _ _ p ok l (x % 65536) hl (Wr.alloc h (.cells #[.int .i64 1, .int .u64 (x : Int), .string s, .int .i64 n] 31)))
  have HB := Lib.hid (Blk.new w 31 #[.int .i64 1, .int .u64 (x : Int), .string s, .int .i64 n])
  clear h
  have hwr : IntKind.u16.wrap (x : Int) = ((x % 65536 : Nat) : Int) := by rw [IntKind.wrap_u16]; omega
  go_enter Try.func12, Try.ntmps12
  go_wp2_with fail
  refine HC.out.mono ?_
  rintro e w1 ⟨rfl, hw⟩
  have hb1 : Blk w1 w.heap.size 31 _ := HB.out.keep hw.2 (by intro hh; exact absurd hh.2 (by omega))
  have hc1 := hb1.cell 1
  have hc2 := hb1.cell 2
  have HW := Lib.hid hw
  clear hw hb1
  go_wp2_with fail
  refine (rfixed_any w1 x 2 hx (by omega)).mono ?_
  rintro e w2 ⟨v, rfl, hv⟩
  have HV := Lib.hid hv
  clear hv
  go_wp2
  go_ret
  have hw := HW.out
  rw [show x % 65536 = x % 256 ^ 2 from rfl, fixB_mod] at hw
  exact Wrt.of hw ⟨v, rfl, HV.out⟩

set_option maxRecDepth 100000 in
set_option maxHeartbeats 1000000 in
theorem write_k2 (w : World) (S : Nat → Prop) (p : Option Nat) (ok : Bool) (l : List Nat) (x : Nat) (s : ByteArray) (n : Int) (hx : x < 18446744073709551616) (hl : l.length ≤ 1099511627776) (h : Wr w S p ok l) :
    Calls Try.prog 12 #[ptr p, .agg #[.int .i64 2, .int .u64 (x : Int), .string s, .int .i64 n]] w (Wrt w S p ok l (Cd.fixB 4 x)) := by
  have HC := Lib.hid (wu32_any _ _ p ok l (x % 4294967296) hl (Wr.alloc h (.cells #[.int .i64 2, .int .u64 (x : Int), .string s, .int .i64 n] 31)))
  have HB := Lib.hid (Blk.new w 31 #[.int .i64 2, .int .u64 (x : Int), .string s, .int .i64 n])
  clear h
  have hwr : IntKind.u32.wrap (x : Int) = ((x % 4294967296 : Nat) : Int) := by rw [IntKind.wrap_u32]; omega
  go_enter Try.func12, Try.ntmps12
  go_wp2_with fail
  refine HC.out.mono ?_
  rintro e w1 ⟨rfl, hw⟩
  have hb1 : Blk w1 w.heap.size 31 _ := HB.out.keep hw.2 (by intro hh; exact absurd hh.2 (by omega))
  have hc1 := hb1.cell 1
  have hc2 := hb1.cell 2
  have HW := Lib.hid hw
  clear hw hb1
  go_wp2_with fail
  refine (rfixed_any w1 x 4 hx (by omega)).mono ?_
  rintro e w2 ⟨v, rfl, hv⟩
  have HV := Lib.hid hv
  clear hv
  go_wp2
  go_ret
  have hw := HW.out
  rw [show x % 4294967296 = x % 256 ^ 4 from rfl, fixB_mod] at hw
  exact Wrt.of hw ⟨v, rfl, HV.out⟩

set_option maxRecDepth 100000 in
set_option maxHeartbeats 1000000 in
theorem write_k3 (w : World) (S : Nat → Prop) (p : Option Nat) (ok : Bool) (l : List Nat) (x : Nat) (s : ByteArray) (n : Int) (hx : x < 18446744073709551616) (hl : l.length ≤ 1099511627776) (h : Wr w S p ok l) :
    Calls Try.prog 12 #[ptr p, .agg #[.int .i64 3, .int .u64 (x : Int), .string s, .int .i64 n]] w (Wrt w S p ok l (Cd.fixB 8 x)) := by
  have HC := Lib.hid (wu64_any _ _ p ok l x hl (Wr.alloc h (.cells #[.int .i64 3, .int .u64 (x : Int), .string s, .int .i64 n] 31)))
  have HB := Lib.hid (Blk.new w 31 #[.int .i64 3, .int .u64 (x : Int), .string s, .int .i64 n])
  clear h
  go_enter Try.func12, Try.ntmps12
  go_wp2_with fail
  refine HC.out.mono ?_
  rintro e w1 ⟨rfl, hw⟩
  have hb1 : Blk w1 w.heap.size 31 _ := HB.out.keep hw.2 (by intro hh; exact absurd hh.2 (by omega))
  have hc1 := hb1.cell 1
  have hc2 := hb1.cell 2
  have HW := Lib.hid hw
  clear hw hb1
  go_wp2_with fail
  refine (rfixed_any w1 x 8 hx (by omega)).mono ?_
  rintro e w2 ⟨v, rfl, hv⟩
  have HV := Lib.hid hv
  clear hv
  go_wp2
  go_ret
  have hw := HW.out
  exact Wrt.of hw ⟨v, rfl, HV.out⟩

set_option maxRecDepth 100000 in
set_option maxHeartbeats 1000000 in
theorem write_k4 (w : World) (S : Nat → Prop) (p : Option Nat) (ok : Bool) (l : List Nat) (x : Nat) (s : ByteArray) (n : Int) (hx : x < 18446744073709551616) (hl : l.length ≤ 1099511627776) (h : Wr w S p ok l) :
    Calls Try.prog 12 #[ptr p, .agg #[.int .i64 4, .int .u64 (x : Int), .string s, .int .i64 n]] w (Wrt w S p ok l (Cd.vi x)) := by
  have HC := Lib.hid (wuint_any _ _ p ok l x hx hl (Wr.alloc h (.cells #[.int .i64 4, .int .u64 (x : Int), .string s, .int .i64 n] 31)))
  have HB := Lib.hid (Blk.new w 31 #[.int .i64 4, .int .u64 (x : Int), .string s, .int .i64 n])
  clear h
  go_enter Try.func12, Try.ntmps12
  go_wp2_with fail
  refine HC.out.mono ?_
  rintro e w1 ⟨rfl, hw⟩
  have hb1 : Blk w1 w.heap.size 31 _ := HB.out.keep hw.2 (by intro hh; exact absurd hh.2 (by omega))
  have hc1 := hb1.cell 1
  have hc2 := hb1.cell 2
  have HW := Lib.hid hw
  clear hw hb1
  go_wp2_with fail
  refine (ruint_any w1 x hx).mono ?_
  rintro e w2 ⟨v, rfl, hv⟩
  have HV := Lib.hid hv
  clear hv
  go_wp2
  go_ret
  have hw := HW.out
  exact Wrt.of hw ⟨v, rfl, HV.out⟩

set_option maxRecDepth 100000 in
set_option maxHeartbeats 1000000 in
theorem write_k5 (w : World) (S : Nat → Prop) (p : Option Nat) (ok : Bool) (l : List Nat) (x : Nat) (s : ByteArray) (n : Int) (hx : x < 18446744073709551616) (hl : l.length ≤ 1099511627776) (h : Wr w S p ok l) :
    Calls Try.prog 12 #[ptr p, .agg #[.int .i64 5, .int .u64 (x : Int), .string s, .int .i64 n]] w (Wrt w S p ok l (Cd.vi (Cd.zz (sx x)))) := by
  have HC := Lib.hid (wint_any _ _ p ok l (sx x) (sx_bd x hx).1 (sx_bd x hx).2 hl (Wr.alloc h (.cells #[.int .i64 5, .int .u64 (x : Int), .string s, .int .i64 n] 31)))
  have HB := Lib.hid (Blk.new w 31 #[.int .i64 5, .int .u64 (x : Int), .string s, .int .i64 n])
  clear h
  have hwr := sx_wrap x hx
  go_enter Try.func12, Try.ntmps12
  go_wp2_with fail
  refine HC.out.mono ?_
  rintro e w1 ⟨rfl, hw⟩
  have hb1 : Blk w1 w.heap.size 31 _ := HB.out.keep hw.2 (by intro hh; exact absurd hh.2 (by omega))
  have hc1 := hb1.cell 1
  have hc2 := hb1.cell 2
  have HW := Lib.hid hw
  clear hw hb1
  go_wp2_with fail
  refine (fold_any (sx x) (sx_bd x hx).1 (sx_bd x hx).2 _).mono ?_
  rintro e w' ⟨rfl, rfl⟩
  go_wp2_with fail
  refine (ruint_any w1 (Cd.zz (sx x)) (Cd.zz_lt _ (sx_bd x hx).1 (sx_bd x hx).2)).mono ?_
  rintro e w2 ⟨v, rfl, hv⟩
  have HV := Lib.hid hv
  clear hv
  go_wp2
  go_ret
  have hw := HW.out
  exact Wrt.of hw ⟨v, rfl, HV.out⟩

set_option maxRecDepth 100000 in
set_option maxHeartbeats 1000000 in
theorem write_k6 (w : World) (S : Nat → Prop) (p : Option Nat) (ok : Bool) (l : List Nat) (x : Nat) (s : ByteArray) (n : Int) (hs : s.size ≤ 1048576) (hl : l.length ≤ 1099511627776) (h : Wr w S p ok l) :
    Calls Try.prog 12 #[ptr p, .agg #[.int .i64 6, .int .u64 (x : Int), .string s, .int .i64 n]] w (Wrt w S p ok l (Cd.tx (bs s))) := by
  have HC := Lib.hid (wtext_any _ _ p ok l s (by omega) hl (Wr.alloc h (.cells #[.int .i64 6, .int .u64 (x : Int), .string s, .int .i64 n] 31)))
  have HB := Lib.hid (Blk.new w 31 #[.int .i64 6, .int .u64 (x : Int), .string s, .int .i64 n])
  clear h
  go_enter Try.func12, Try.ntmps12
  go_wp2_with fail
  refine HC.out.mono ?_
  rintro e w1 ⟨rfl, hw⟩
  have hb1 : Blk w1 w.heap.size 31 _ := HB.out.keep hw.2 (by intro hh; exact absurd hh.2 (by omega))
  have hc1 := hb1.cell 1
  have hc2 := hb1.cell 2
  have HW := Lib.hid hw
  clear hw hb1
  go_wp2_with fail
  refine (rtext_any w1 s (by omega)).mono ?_
  rintro e w2 ⟨v, rfl, hv⟩
  have HV := Lib.hid hv
  clear hv
  go_wp2
  go_ret
  have hw := HW.out
  exact Wrt.of hw ⟨v, rfl, HV.out⟩

/-! ### A text made bytes -/
/-- block g begins with the bytes l, that may be written -/
def BB (w : World) (g : Nat) (l : List Nat) : Prop :=
  (∃ cs mk, w.heap[g]? = some (.cells cs 5 mk) ∧ l.length ≤ mk.1 ∧ ∀ j, j < l.length → cs[j]? = some (.int .u8 ((l.getD j 0 : Nat) : Int))) ∧ ∀ x ∈ l, x < 256
theorem BB.lt {w : World} {g : Nat} {l : List Nat} (h : BB w g l) : g < w.heap.size := by
  obtain ⟨⟨cs, mk, h, _⟩, _⟩ := h
  rcases Nat.lt_or_ge g w.heap.size with hlt | hge
  · exact hlt
  · rw [Array.getElem?_eq_none hge] at h; cases h
theorem BB.cell {w : World} {g : Nat} {l : List Nat} (h : BB w g l) {j : Nat} (hj : j < l.length) : w.cell? ⟨g, j, none⟩ = some (.int .u8 ((l.getD j 0 : Nat) : Int)) := by
  obtain ⟨⟨cs, mk, h, _, hc⟩, _⟩ := h
  simp only [World.cell?, h]
  simpa using hc j hj
theorem BB.frozen {w : World} {g : Nat} {l : List Nat} (h : BB w g l) {j : Nat} (hj : j < l.length) : w.frozen? ⟨g, j, none⟩ = false := by
  obtain ⟨⟨cs, mk, h, hm, _⟩, _⟩ := h
  simp [World.frozen?, h]
  omega
theorem BB.keep {w w' : World} {g : Nat} {l : List Nat} {S : Nat → Prop} (h : BB w g l) (hf : Fr w w' S) (hg : ¬ S g) : BB w' g l := by
  have hlt := h.lt
  obtain ⟨⟨cs, mk, h, hm⟩, h2⟩ := h
  exact ⟨⟨cs, mk, (hf.block g hlt hg).trans h, hm⟩, h2⟩
theorem BB.set_ {w : World} {g : Nat} {l : List Nat} (h : BB w g l) {j y : Nat} (hj : j < l.length) (hy : y < 256) : BB (w.setCell ⟨g, j, none⟩ (.int .u8 (y : Int))) g (l.set j y) := by
  obtain ⟨⟨cs, mk, h, hm, hc⟩, h2⟩ := h
  refine ⟨⟨cs.setIfInBounds j (.int .u8 (y : Int)), mk, ?_, by simpa using hm, fun i hi => ?_⟩, fun x hx => ?_⟩
  · simp [World.setCell, Array.getElem?_modify, h]
  · simp only [List.length_set] at hi
    by_cases hij : i = j
    · subst hij
      have hs : i < cs.size := by
        have := hc i hi
        rcases Nat.lt_or_ge i cs.size with h | h
        · exact h
        · rw [Array.getElem?_eq_none h] at this; cases this
      simp [hs, hi]
    · rw [Array.getElem?_setIfInBounds_ne (fun e => hij e.symm), hc i hi]
      simp [List.getD_eq_getElem?_getD, List.getElem?_set_ne (fun e => hij e.symm)]
  · rcases List.mem_or_eq_of_mem_set hx with hx | hx
    · exact h2 x hx
    · rw [hx]; exact hy
theorem BB.rb {w : World} {g : Nat} {l : List Nat} {T : Nat → Prop} (h : BB w g l) (hT : T g) : RB w T (some ⟨g, 0, none⟩) l.length l :=
  ⟨rfl, h.2, fun _ => ⟨_, rfl, h.lt, hT, fun j hj => by rw [add_head]; exact h.cell hj⟩⟩
theorem conv_bytes (w : World) (s : ByteArray) : ∃ c w', (convert 9 27 (.string s)).run Try.prog w = .ok (.slice (some ⟨w.heap.size, 0, none⟩) s.size c) w' ∧ Below w.heap.size w w' ∧ w'.heap.size = w.heap.size + 1 ∧ BB w' w.heap.size (bs s) := by
  refine ⟨_, _, Lib.run_convert_string_bytes w 9 27 5 s Try.underlying9 Try.underlying27 Try.underlying5, ⟨rfl, rfl, rfl, ?_, fun k hk => Lib.bytesWorld_at_old w 5 s k hk⟩, Lib.bytesWorld_size w 5 s, ⟨_, _, Lib.bytesWorld_at_new w 5 s, ?_, fun j hj => ?_⟩, bs_lt s⟩
  · rw [Lib.bytesWorld_size]; omega
  · rw [bs_len]
    simp [Lib.bytesCells]
  · rw [bs_len] at hj
    simp [Lib.bytesCells, Array.getElem?_append, bs, hj]

set_option maxRecDepth 100000 in
set_option maxHeartbeats 1000000 in
theorem write_k7 (w : World) (S : Nat → Prop) (p : Option Nat) (ok : Bool) (l : List Nat) (x : Nat) (s : ByteArray) (n : Int) (hs : s.size ≤ 1048576) (hl : l.length ≤ 1099511627776) (h : Wr w S p ok l) :
    Calls Try.prog 12 #[ptr p, .agg #[.int .i64 7, .int .u64 (x : Int), .string s, .int .i64 n]] w (Wrt w S p ok l (bs s)) := by
  have hB := Blk.new w 31 #[.int .i64 7, .int .u64 (x : Int), .string s, .int .i64 n]
  have hwa := Wr.alloc h (.cells #[.int .i64 7, .int .u64 (x : Int), .string s, .int .i64 n] 31)
  obtain ⟨c, wb, hrun, hbel, hsz, hbb⟩ := conv_bytes (w.alloc (.cells #[.int .i64 7, .int .u64 (x : Int), .string s, .int .i64 n] 31)) s
  simp only [World.size_alloc] at hrun hsz hbb hbel
  have hbl := bs_len s
  have hfb : Fr (w.alloc (.cells #[.int .i64 7, .int .u64 (x : Int), .string s, .int .i64 n] 31)) wb No := Fr.of_below (by simpa using hbel) No
  have hwb := Wr.keep hwa hfb fun _ _ hn => hn
  have hB1 : Blk wb w.heap.size 31 _ := hB.keep hfb fun hn => hn
  have HC := Lib.hid (wraw_any wb (fun b => S b ∧ b < w.heap.size) (fun _ => True) p ok l _ (bs s).length c (bs s) (hbb.rb trivial) (by omega) hl hwb)
  rw [hbl] at HC
  have HF0 := Lib.hid ((((Fr.refl w No).alloc _).trans hfb) fun _ hn => hn.elim)
  have HB1 := Lib.hid hB1
  have HBB := Lib.hid hbb
  have HSZ := Lib.hid hsz
  have HBL := Lib.hid hbl
  clear h hwa hbel hfb hwb hB hB1 hbb hsz hbl
  go_enter Try.func12, Try.ntmps12
  go_wp2_with fail
  refine HC.out.mono ?_
  rintro e w1 ⟨rfl, hw⟩
  have HW := Lib.hid hw
  have hbb1 : BB w1 (w.heap.size + 1) (bs s) := HBB.out.keep hw.2 (by rintro ⟨_, hn⟩; omega)
  have HBB1 := Lib.hid hbb1
  have HB2 := Lib.hid (HB1.out.keep hw.2 (by rintro ⟨_, hn⟩; omega))
  clear hw hbb1 hrun
  go_wp2
  go_loopw [6] (fun i wr => ∃ (k : Nat) (l' : List Nat), k ≤ s.size ∧ i = .int .i64 (k : Int) ∧ l'.length = s.size ∧ BB wr (w.heap.size + 1) l' ∧ Fr w1 wr (fun b => b = w.heap.size + 1)) (fun i _ => s.size - (intOf i).toNat)
  case atStart => exact ⟨0, bs s, by omega, rfl, HBL.out, HBB1.out, Fr.refl _ _⟩
  case round =>
    obtain ⟨k, l', hk, rfl, hl', hbb, hf⟩ := hrel
    have HL := Lib.hid hl'
    have HF := Lib.hid hf
    have HB3 := Lib.hid (HB2.out.keep hf (by omega))
    by_cases hlt : k < s.size
    · have hc := hbb.cell (j := k) (by omega)
      have hfz := hbb.frozen (j := k) (by omega)
      obtain ⟨z, hz⟩ : ∃ z, z = l'.getD k 0 := ⟨_, rfl⟩
      rw [← hz] at hc
      have HBB2 := Lib.hid (hbb.set_ (j := k) (y := (z + 1) % 256) (by omega) (by omega))
      clear hbb hf hz hl'
      have hwr : IntKind.u8.wrap ((z : Int) + 1) = (((z + 1) % 256 : Nat) : Int) := by rw [IntKind.wrap_u8]; omega
      go_wp2
      go_roundw
      case rel =>
        have e : (((z + 1) % 256 : Nat) : Int) = ((z : Int) + 1) % 256 := by omega
        have hb2 := HBB2.out
        rw [e] at hb2
        exact ⟨k + 1, _, by omega, by go_num, by rw [List.length_set]; exact HL.out, hb2, HF.out.setCell (Or.inl rfl) _⟩
      case measure => simp [intOf]; omega
    · obtain ⟨c2, w5, hrun2, hbel2, _, hbb5⟩ := conv_bytes wr s
      have hcs : wr.cell? ⟨w.heap.size, 2, none⟩ = some (.string s) := HB3.out.cell 2
      have HB5 := Lib.hid hbb5
      have HBL2 := Lib.hid hbel2
      clear hbb hf hl' hbb5 hbel2
      go_wp2
      go_ret
      have hw := HW.out
      have hsz := HSZ.out
      have hf5 := Fr.of_below HBL2.out (fun b => wr.heap.size ≤ b)
      have hbl := HBL.out
      have hs1 := hw.2.size
      have hs2 := HF.out.size
      refine ⟨_, c2, by rw [hbl]; rfl, (HB5.out.rb trivial), ?_, ?_⟩
      · have h1 := Wr.keep (Wr.up hw.1) HF.out (fun b hb => by
          rintro rfl
          rcases hb.1 with hb | hb
          · omega
          · omega)
        refine Wr.mono (Wr.keep (Wr.up h1) hf5 fun b hb => by omega) (fun b _ hb => ?_)
        rcases hb.1.1 with hb | hb
        · exact Or.inl hb.1
        · exact Or.inr (by omega)
      · have f1 : Fr w w1 S := (HF0.out.mono (fun _ _ hn => hn.elim)).trans hw.2 fun b hb => Or.inl hb.1
        have f2 := f1.trans HF.out fun b hb => Or.inr (by omega)
        exact f2.trans hf5 fun b hb => Or.inr (by omega)

set_option maxRecDepth 100000 in
theorem write_no (w : World) (S : Nat → Prop) (p : Option Nat) (ok : Bool) (l : List Nat) (k : Int) (x : Nat) (s : ByteArray) (n : Int) (hk : k < 0 ∨ 7 < k) (h : Wr w S p ok l) :
    Calls Try.prog 12 #[ptr p, .agg #[.int .i64 k, .int .u64 (x : Int), .string s, .int .i64 n]] w (Wrt w S p ok l []) := by
  have hwa := Lib.hid (Wr.alloc h (.cells #[.int .i64 k, .int .u64 (x : Int), .string s, .int .i64 n] 31))
  have h0 : (k == 0) = false := by simp; omega
  have h1 : (k == 1) = false := by simp; omega
  have h2 : (k == 2) = false := by simp; omega
  have h3 : (k == 3) = false := by simp; omega
  have h4 : (k == 4) = false := by simp; omega
  have h5 : (k == 5) = false := by simp; omega
  have h6 : (k == 6) = false := by simp; omega
  have h7 : (k == 7) = false := by simp; omega
  clear h hk
  go_enter Try.func12, Try.ntmps12
  go_wp2
  go_ret
  refine ⟨none, 0, rfl, RB.nil_, ?_, (Fr.refl _ _).alloc _⟩
  have e : put ok l [] = l := by unfold put; split <;> simp
  rw [e]
  exact Wr.mono hwa.out fun b _ hb => Or.inl hb.1

theorem write_any (w : World) (S : Nat → Prop) (p : Option Nat) (ok : Bool) (l : List Nat) (it : It) (hi : it.Ok) (hs : it.s.size ≤ 1048576) (hl : l.length ≤ 1099511627776) (h : Wr w S p ok l) :
    Calls Try.prog 12 #[ptr p, it.agg] w (Wrt w S p ok l (itB it)) := by
  obtain ⟨k, x, s, n⟩ := it
  have hx := hi.x1
  simp only at hx hs
  unfold It.agg itB
  simp only
  split
  · rename_i e; subst e; exact write_k0 w S p ok l x s n hx hl h
  split
  · rename_i e; subst e; exact write_k1 w S p ok l x s n hx hl h
  split
  · rename_i e; subst e; exact write_k2 w S p ok l x s n hx hl h
  split
  · rename_i e; subst e; exact write_k3 w S p ok l x s n hx hl h
  split
  · rename_i e; subst e; exact write_k4 w S p ok l x s n hx hl h
  split
  · rename_i e; subst e; exact write_k5 w S p ok l x s n hx hl h
  split
  · rename_i e; subst e; exact write_k6 w S p ok l x s n hs hl h
  split
  · rename_i e; subst e; exact write_k7 w S p ok l x s n hs hl h
  · exact write_no w S p ok l k x s n (by omega) h
end Go.Proofs.Ytbjcojmapbiaaaa
