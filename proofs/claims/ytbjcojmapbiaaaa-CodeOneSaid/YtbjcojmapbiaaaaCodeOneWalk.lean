/-
  THE WALK OF CodeOne: there is one form: what a number or a text was read from is just what is written of it.
-/
import Derived.Test.YtbjcojmapbiaaaaOpen
import Derived.Deep.RegionWith
import Derived.Deep.DrawnRows
import Derived.Outline
import Derived.Handy
import Derived.Deep.QuietTactic
import Derived.BigQuiet
import Derived.Deep.DeepCutAuto
import Derived.Test.YtbjcojmapbiaaaaMid
namespace Go.Proofs.Ytbjcojmapbiaaaa.codeOne
open Go.RowKit
attribute [local go_sem ↓] Go.wp_at_zero Go.wp_at_succ

/-- readers and writers that stay as they are while new memory is made -/
def RdE (w : World) (p : Option Nat) (ok : Bool) (l : List Nat) : Prop := ∃ S, Rd w S p ok l
def WrE (w : World) (p : Option Nat) (l : List Nat) : Prop := ∃ S, Wr w S p true l
theorem RdE.below {w w' : World} {p : Option Nat} {ok : Bool} {l : List Nat} (h : RdE w p ok l) (hb : Below w.heap.size w w') : RdE w' p ok l := by
  obtain ⟨S, h⟩ := h
  exact ⟨_, Rd.keep (Rd.up h) (Fr.of_below hb fun b => w.heap.size ≤ b) fun b hb => by omega⟩
theorem WrE.below {w w' : World} {p : Option Nat} {l : List Nat} (h : WrE w p l) (hb : Below w.heap.size w w') : WrE w' p l := by
  obtain ⟨S, h⟩ := h
  exact ⟨_, Wr.keep (Wr.up h) (Fr.of_below hb fun b => w.heap.size ≤ b) fun b hb => by omega⟩
theorem RdE.drew {w : World} {p : Option Nat} {ok : Bool} {l : List Nat} (h : RdE w p ok l) : RdE w.drew p ok l := h
theorem WrE.drew {w : World} {p : Option Nat} {l : List Nat} (h : WrE w p l) : WrE w.drew p l := h

/-- all that is there when the questions begin -/
structure Hold (w0 : World) (A : Option Addr) (n : Nat) (l : List Nat) (gr gs gt gu gv gw : Nat) (limit : Int) (w : World) : Prop where
  fb : RB w (fun b => b < w0.heap.size) A n l
  fr : RdE w (some gr) (okO true (Cd.front l)) (leftO true l (Cd.front l))
  fs : RdE w (some gs) (okO true (Cd.front l)) (leftO true l (Cd.front l))
  ft : RdE w (some gt) (okO true (Cd.text l limit)) (leftO true l (Cd.text l limit))
  fu : WrE w (some gu) (Cd.vi (valO true (Cd.front l) 0))
  fv : WrE w (some gv) (Cd.vi (Cd.zz (valO true (intO l) 0)))
  fw : WrE w (some gw) (Cd.tx (valO true (Cd.text l limit) []))
  fa : Below w0.heap.size w0 w
theorem Hold.below {w0 : World} {A : Option Addr} {n : Nat} {l : List Nat} {gr gs gt gu gv gw : Nat} {limit : Int} {w w' : World} (h : Hold w0 A n l gr gs gt gu gv gw limit w) (hb : Below w.heap.size w w') : Hold w0 A n l gr gs gt gu gv gw limit w' :=
  ⟨h.fb.below (hb.mono h.fa.size) fun _ hb => hb, h.fr.below hb, h.fs.below hb, h.ft.below hb, h.fu.below hb, h.fv.below hb, h.fw.below hb, h.fa.trans (hb.mono h.fa.size)⟩
theorem Hold.drew {w0 : World} {A : Option Addr} {n : Nat} {l : List Nat} {gr gs gt gu gv gw : Nat} {limit : Int} {w : World} (h : Hold w0 A n l gr gs gt gu gv gw limit w) : Hold w0 A n l gr gs gt gu gv gw limit w.drew :=
  ⟨h.fb.drew, h.fr.drew, h.fs.drew, h.ft.drew, h.fu.drew, h.fv.drew, h.fw.drew, h.fa.drew⟩
theorem Hold.drewN {w0 : World} {A : Option Addr} {n : Nat} {l : List Nat} {gr gs gt gu gv gw : Nat} {limit : Int} {w : World} (h : Hold w0 A n l gr gs gt gu gv gw limit w) (k : Nat) : Hold w0 A n l gr gs gt gu gv gw limit (w.drewN k) :=
  ⟨h.fb.drewN k, h.fr, h.fs, h.ft, h.fu, h.fv, h.fw, ⟨h.fa.os, h.fa.tape, h.fa.output, h.fa.size, h.fa.block⟩⟩
def Iv (a b : Nat) : Nat → Prop := fun x => a ≤ x ∧ x < b

theorem err_e {w : World} {p : Option Nat} {ok : Bool} {l : List Nat} (h : RdE w p ok l) : Calls Try.prog 18 #[ptr p] w fun e w' => e = .returned (.int .i64 (errOf ok)) ∧ w = w' := by
  obtain ⟨S, h⟩ := h
  exact err_any w S p ok l h
theorem left_e {w : World} {p : Option Nat} {ok : Bool} {l : List Nat} (h : RdE w p ok l) : Calls Try.prog 17 #[ptr p] w fun e w' => e = .returned (.int .i64 ((l.length : Nat) : Int)) ∧ w = w' := by
  obtain ⟨S, h⟩ := h
  exact left_any w S p ok l h
theorem bytes_e {w : World} {p : Option Nat} {l : List Nat} (h : WrE w p l) (hl : l.length ≤ 140737488351232) : Calls Try.prog 13 #[ptr p] w (New w l) := by
  obtain ⟨S, h⟩ := h
  exact wbytes_any w S p true l h hl

theorem valO_text_lt {l : List Nat} (most : Int) (h : ∀ y ∈ l, y < 256) : ∀ y ∈ valO true (Cd.text l most) [], y < 256 := by
  intro y hy
  cases ht : Cd.text l most with
  | none => rw [ht] at hy; simp [valO] at hy
  | some q =>
    obtain ⟨z, k⟩ := q
    rw [ht] at hy
    have := (Cd.text_one h ht).1
    have hz : y ∈ l.take k := by rw [← this]; exact List.mem_append_right _ hy
    exact h y (List.mem_of_mem_take hz)
theorem valO_text_len (ok : Bool) (l : List Nat) (most : Int) : (valO ok (Cd.text l most) []).length ≤ l.length := by
  cases ok with
  | false => simp [valO]
  | true =>
    unfold Cd.text
    split
    · simp [valO]
    · split
      · simp [valO]
      · simp [valO]; omega

set_option maxRecDepth 100000 in
set_option maxHeartbeats 40000000 in
theorem walk_all (A : Option Addr) (n c : Nat) (l : List Nat) (limit : Int) (w : World) (h : In w A n c l) (hl1 : -9223372036854775808 ≤ limit) (hl2 : limit ≤ 9223372036854775807) (hn : n ≤ 1048576) :
    Calls Try.prog 6 #[.slice A n c, .int .i64 limit] w fun e w' => e = .returned (.bool true) ∧ Below w.heap.size w w' := by
  obtain ⟨hb, hc, _, h0⟩ := h
  have hlen := hb.len
  have HC1 := Lib.hid (newReader_any w _ A n c l hb (by omega))
  have HB0 := Lib.hid hb
  have HLEN := Lib.hid hlen
  clear hb hlen h0
  go_enter Try.func6, Try.ntmps6
  go_wp2_with fail
  refine HC1.out.mono ?_
  rintro e w1 ⟨gr, rfl, hr1, hb1⟩
  have hs1 := hb1.size
  have HBL1 := Lib.hid hb1
  have HRB1 := Lib.hid (HB0.out.below hb1 fun _ hb => hb)
  have HR1 := Lib.hid (Rd.mono (T := Iv w.heap.size w1.heap.size) hr1 fun b hb hs => ⟨hs, hb⟩)
  have HC2 := Lib.hid (newReader_any w1 _ A n c l HRB1.out (by omega))
  clear hr1 hb1
  go_wp2_with fail
  refine HC2.out.mono ?_
  rintro e w2 ⟨gs, rfl, hr2, hb2⟩
  have hs2 := hb2.size
  have HBL2 := Lib.hid (HBL1.out.trans (hb2.mono hs1))
  have HRB2 := Lib.hid (HB0.out.below HBL2.out fun _ hb => hb)
  have HR2 := Lib.hid (Rd.keep HR1.out (Fr.of_below hb2 No) fun _ _ hn => hn)
  have HS2 := Lib.hid (Rd.mono (T := Iv w1.heap.size w2.heap.size) hr2 fun b hb hs => ⟨hs, hb⟩)
  have HC3 := Lib.hid (newReader_any w2 _ A n c l HRB2.out (by omega))
  clear hr2 hb2
  go_wp2_with fail
  refine HC3.out.mono ?_
  rintro e w3 ⟨gt, rfl, hr3, hb3⟩
  have hs3 := hb3.size
  have HBL3 := Lib.hid (HBL2.out.trans (hb3.mono (by omega)))
  have HR3 := Lib.hid (Rd.keep HR2.out (Fr.of_below hb3 No) fun _ _ hn => hn)
  have HS3 := Lib.hid (Rd.keep HS2.out (Fr.of_below hb3 No) fun _ _ hn => hn)
  have HT3 := Lib.hid (Rd.mono (T := Iv w2.heap.size w3.heap.size) hr3 fun b hb hs => ⟨hs, hb⟩)
  have HC4 := Lib.hid (uint_any w3 _ _ true l HR3.out)
  clear hr3 hb3
  go_wp2_with fail
  refine HC4.out.mono ?_
  rintro e w4 ⟨rfl, hr4, hf4⟩
  have hs4 := hf4.size
  have HBL4 := Lib.hid (HBL3.out.trans (hf4.below (B := w.heap.size) (fun b hb => hb.1) (by omega)))
  have HR4 := Lib.hid hr4
  have HS4 := Lib.hid (Rd.keep HS3.out hf4 fun b hb hh => by have h1 := hb.1; have h2 := hh.2; omega)
  have HT4 := Lib.hid (Rd.keep HT3.out hf4 fun b hb hh => by have h1 := hb.1; have h2 := hh.2; omega)
  have HC5 := Lib.hid (rint_any w4 _ _ true l HS4.out)
  clear hr4 hf4
  go_wp2_with fail
  refine HC5.out.mono ?_
  rintro e w5 ⟨rfl, hr5, hf5⟩
  have hs5 := hf5.size
  rw [intO_ok, intO_left] at hr5
  have HBL5 := Lib.hid (HBL4.out.trans (hf5.below (B := w.heap.size) (fun b hb => by have := hb.1; omega) (by omega)))
  have HR5 := Lib.hid (Rd.keep HR4.out hf5 fun b hb hh => by have h1 := hb.2; have h2 := hh.1; omega)
  have HS5 := Lib.hid hr5
  have HT5 := Lib.hid (Rd.keep HT4.out hf5 fun b hb hh => by have h1 := hb.1; have h2 := hh.2; omega)
  have HC6 := Lib.hid (text_any w5 _ _ true l limit hl1 hl2 HT5.out)
  clear hr5 hf5
  go_wp2_with fail
  refine HC6.out.mono ?_
  rintro e w6 ⟨rfl, hr6, hf6⟩
  have hs6 := hf6.size
  have HBL6 := Lib.hid (HBL5.out.trans (hf6.below (B := w.heap.size) (fun b hb => by have := hb.1; omega) (by omega)))
  have HR6 := Lib.hid (Rd.mono (T := fun b => b < w6.heap.size) (Rd.keep HR5.out hf6 fun b hb hh => by have h1 := hb.2; have h2 := hh.1; omega) fun b hb _ => hb)
  have HS6 := Lib.hid (Rd.mono (T := fun b => b < w6.heap.size) (Rd.keep HS5.out hf6 fun b hb hh => by have h1 := hb.2; have h2 := hh.1; omega) fun b hb _ => hb)
  have HT6 := Lib.hid (Rd.mono (T := fun b => b < w6.heap.size) hr6 fun b hb _ => hb)
  clear hr6 hf6
  have hzs : ∀ y ∈ valO true (Cd.text l limit) [], y < 256 := valO_text_lt _ HB0.out.lt
  have hzl : (valO true (Cd.text l limit) []).length ≤ 1048576 := by have := valO_text_len true l limit; have := HLEN.out; omega
  have HZS := Lib.hid hzs
  unfold strV
  clear hzs
  go_wp2_with fail
  refine (newWriter_any w6).mono ?_
  rintro e w7 ⟨rfl, hw7, hb7⟩
  have hs7 := hb7.size
  have HBL7 := Lib.hid (HBL6.out.trans (hb7.mono (by omega)))
  have HR7 := Lib.hid (Rd.keep HR6.out (Fr.of_below hb7 No) fun _ _ hn => hn)
  have HS7 := Lib.hid (Rd.keep HS6.out (Fr.of_below hb7 No) fun _ _ hn => hn)
  have HT7 := Lib.hid (Rd.keep HT6.out (Fr.of_below hb7 No) fun _ _ hn => hn)
  have HU7 := Lib.hid (Wr.mono (T := Iv w6.heap.size w7.heap.size) hw7 fun b hb hs => ⟨hs, hb⟩)
  clear hw7 hb7
  go_wp2_with fail
  refine (newWriter_any w7).mono ?_
  rintro e w8 ⟨rfl, hw8, hb8⟩
  have hs8 := hb8.size
  have HBL8 := Lib.hid (HBL7.out.trans (hb8.mono (by omega)))
  have HR8 := Lib.hid (Rd.keep HR7.out (Fr.of_below hb8 No) fun _ _ hn => hn)
  have HS8 := Lib.hid (Rd.keep HS7.out (Fr.of_below hb8 No) fun _ _ hn => hn)
  have HT8 := Lib.hid (Rd.keep HT7.out (Fr.of_below hb8 No) fun _ _ hn => hn)
  have HU8 := Lib.hid (Wr.keep HU7.out (Fr.of_below hb8 No) fun _ _ hn => hn)
  have HV8 := Lib.hid (Wr.mono (T := Iv w7.heap.size w8.heap.size) hw8 fun b hb hs => ⟨hs, hb⟩)
  clear hw8 hb8
  go_wp2_with fail
  refine (newWriter_any w8).mono ?_
  rintro e w9 ⟨rfl, hw9, hb9⟩
  have hs9 := hb9.size
  have HBL9 := Lib.hid (HBL8.out.trans (hb9.mono (by omega)))
  have HR9 := Lib.hid (Rd.keep HR8.out (Fr.of_below hb9 No) fun _ _ hn => hn)
  have HS9 := Lib.hid (Rd.keep HS8.out (Fr.of_below hb9 No) fun _ _ hn => hn)
  have HT9 := Lib.hid (Rd.keep HT8.out (Fr.of_below hb9 No) fun _ _ hn => hn)
  have HU9 := Lib.hid (Wr.keep HU8.out (Fr.of_below hb9 No) fun _ _ hn => hn)
  have HV9 := Lib.hid (Wr.keep HV8.out (Fr.of_below hb9 No) fun _ _ hn => hn)
  have HW9 := Lib.hid (Wr.mono (T := Iv w8.heap.size w9.heap.size) hw9 fun b hb hs => ⟨hs, hb⟩)
  have hxl := valO_lt true l
  have HCU := Lib.hid (wuint_any w9 _ _ true [] (valO true (Cd.front l) 0) hxl (by simp) HU9.out)
  have hyl : -9223372036854775808 ≤ valO true (intO l) 0 ∧ valO true (intO l) 0 ≤ 9223372036854775807 := by rw [intO_val]; exact Cd.unzz_bd _ hxl
  clear hw9 hb9
  go_wp2_with fail
  refine HCU.out.mono ?_
  rintro e w10 ⟨rfl, hw10, hf10⟩
  have hs10 := hf10.size
  have HBL10 := Lib.hid (HBL9.out.trans (hf10.below (B := w.heap.size) (fun b hb => by have := hb.1; omega) (by omega)))
  have HR10 := Lib.hid (Rd.keep HR9.out hf10 fun b hb hh => by have h2 := hh.1; omega)
  have HS10 := Lib.hid (Rd.keep HS9.out hf10 fun b hb hh => by have h2 := hh.1; omega)
  have HT10 := Lib.hid (Rd.keep HT9.out hf10 fun b hb hh => by have h2 := hh.1; omega)
  have HU10 := Lib.hid (Wr.mono (T := fun b => b < w7.heap.size ∨ Iv w9.heap.size w10.heap.size b) hw10 fun b hb hs => hs.elim (fun h => Or.inl h.2) fun h => Or.inr ⟨h, hb⟩)
  have HV10 := Lib.hid (Wr.keep HV9.out hf10 fun b hb hh => by have h1 := hb.1; have h2 := hh.2; omega)
  have HW10 := Lib.hid (Wr.keep HW9.out hf10 fun b hb hh => by have h1 := hb.1; have h2 := hh.2; omega)
  have HCV := Lib.hid (wint_any w10 _ _ true [] (valO true (intO l) 0) hyl.1 hyl.2 (by simp) HV10.out)
  clear hw10 hf10
  go_wp2_with fail
  refine HCV.out.mono ?_
  rintro e w11 ⟨rfl, hw11, hf11⟩
  have hs11 := hf11.size
  have HBL11 := Lib.hid (HBL10.out.trans (hf11.below (B := w.heap.size) (fun b hb => by have := hb.1; omega) (by omega)))
  have HR11 := Lib.hid (Rd.keep HR10.out hf11 fun b hb hh => by have h2 := hh.1; omega)
  have HS11 := Lib.hid (Rd.keep HS10.out hf11 fun b hb hh => by have h2 := hh.1; omega)
  have HT11 := Lib.hid (Rd.keep HT10.out hf11 fun b hb hh => by have h2 := hh.1; omega)
  have HU11 := Lib.hid (Wr.keep HU10.out hf11 fun b hb hh => by
    have h1 := hh.1
    have h2 := hh.2
    rcases hb with hb | hb
    · omega
    · have := hb.1; omega)
  have HV11 := Lib.hid (Wr.mono (T := fun b => b < w8.heap.size ∨ Iv w10.heap.size w11.heap.size b) hw11 fun b hb hs => hs.elim (fun h => Or.inl h.2) fun h => Or.inr ⟨h, hb⟩)
  have HW11 := Lib.hid (Wr.keep HW10.out hf11 fun b hb hh => by have h1 := hb.1; have h2 := hh.2; omega)
  have hsz : (strOf (valO true (Cd.text l limit) [])).size ≤ 1099511627776 := by rw [← bs_len, bs_strOf _ HZS.out]; omega
  have HCW := Lib.hid (wtext_any w11 _ _ true [] (strOf (valO true (Cd.text l limit) [])) hsz (by simp) HW11.out)
  clear hw11 hf11
  go_wp2_with fail
  refine HCW.out.mono ?_
  rintro e w12 ⟨rfl, hw12, hf12⟩
  rw [bs_strOf _ HZS.out] at hw12
  have hs12 := hf12.size
  have HBL12 := Lib.hid (HBL11.out.trans (hf12.below (B := w.heap.size) (fun b hb => by have := hb.1; omega) (by omega)))
  have hold : Hold w A n l gr gs gt w6.heap.size w7.heap.size w8.heap.size limit w12 := by
    refine ⟨HB0.out.below HBL12.out fun _ hb => hb, ⟨_, Rd.keep HR11.out hf12 fun b hb hh => by have h2 := hh.1; omega⟩, ⟨_, Rd.keep HS11.out hf12 fun b hb hh => by have h2 := hh.1; omega⟩, ⟨_, Rd.keep HT11.out hf12 fun b hb hh => by have h2 := hh.1; omega⟩,
      ⟨_, Wr.keep HU11.out hf12 fun b hb hh => ?_⟩, ⟨_, Wr.keep HV11.out hf12 fun b hb hh => ?_⟩, ⟨_, hw12⟩, HBL12.out⟩
    · have h1 := hh.1
      have h2 := hh.2
      rcases hb with hb | hb
      · omega
      · have := hb.1; omega
    · have h1 := hh.1
      have h2 := hh.2
      rcases hb with hb | hb
      · omega
      · have := hb.1; omega
  have HOLD := Lib.hid hold
  clear hw12 hf12 hold HR6 HS6 HT6 HR7 HS7 HT7 HU7 HR8 HS8 HT8 HU8 HV8 HR9 HS9 HT9 HU9 HV9 HW9 HR10 HS10 HT10 HU10 HV10 HW10 HR11 HS11 HT11 HU11 HV11 HW11 HCU HCV HCW HC1 HC2 HC3 HC4 HC5 HC6 HR1 HR2 HS2 HR3 HS3 HT3 HR4 HS4 HT4 HR5 HS5 HT5 HRB1 HRB2 HBL1 HBL2 HBL3 HBL4 HBL5 HBL6 HBL7 HBL8 HBL9 HBL10 HBL11 HBL12
  clear hs1 hs2 hs3 hs4 hs5 hs6 hs7 hs8 hs9 hs10 hs11 hs12
  obtain ⟨gu, hgu⟩ : ∃ gu, gu = w6.heap.size := ⟨_, rfl⟩
  obtain ⟨gv, hgv⟩ : ∃ gv, gv = w7.heap.size := ⟨_, rfl⟩
  obtain ⟨gw, hgw⟩ : ∃ gw, gw = w8.heap.size := ⟨_, rfl⟩
  rw [← hgu, ← hgv, ← hgw] at HOLD
  rw [← hgu, ← hgv, ← hgw]
  clear hgu hgv hgw
  cases hfr : Cd.front l with
  | none =>
    have htx : Cd.text l limit = none := text_none hfr
    have HEr := Lib.hid (fun (W : World) (h : Hold w A n l gr gs gt gu gv gw limit W) => err_e h.fr)
    have HEs := Lib.hid (fun (W : World) (h : Hold w A n l gr gs gt gu gv gw limit W) => err_e h.fs)
    have HEt := Lib.hid (fun (W : World) (h : Hold w A n l gr gs gt gu gv gw limit W) => err_e h.ft)
    simp only [hfr, htx, okO, Option.isSome_none, Bool.and_false, errOf, Bool.false_eq_true, if_false] at HEr HEs HEt
    clear hfr htx
    go_wp2_with fail
    go_quiet (first
      | (go_at_call_of 18 (ptr (some gr)); exact Calls.quiet_of_same ((HEr.out _ (Hold.drewN HOLD.out _)).mono fun _ _ h => ⟨h.1, h.2.symm⟩))
      | (go_at_call_of 18 (ptr (some gs)); exact Calls.quiet_of_same ((HEs.out _ (Hold.drewN HOLD.out _)).mono fun _ _ h => ⟨h.1, h.2.symm⟩)))
    have H1 := Lib.hid (Hold.drewN HOLD.out nq)
    generalize w12.drewN nq = w13 at H1 ⊢
    clear HOLD
    go_wp2_with fail
    go_quiet (first
      | (go_at_call_of 18 (ptr (some gt)); exact Calls.quiet_of_same ((HEt.out _ (Hold.drewN H1.out _)).mono fun _ _ h => ⟨h.1, h.2.symm⟩)))
    have H2 := Lib.hid (Hold.drewN H1.out nq)
    generalize w13.drewN nq = w14 at H2 ⊢
    clear H1
    go_wp2_with (first | (go_at_call_of 18 (ptr (some gr)); refine (HEr.out _ H2.out).mono ?_; rintro e w' ⟨rfl, rfl⟩) | (go_at_call_of 18 (ptr (some gs)); refine (HEs.out _ H2.out).mono ?_; rintro e w' ⟨rfl, rfl⟩) | (go_at_call 10; refine (alive_any _).mono ?_; rintro e w2 ⟨rfl, hb2⟩; have HB2 := Lib.hid hb2; clear hb2))
    go_ret
    exact ⟨rfl, H2.out.fa.trans (HB2.out.mono H2.out.fa.size)⟩
  | some q =>
    obtain ⟨x, k⟩ := q
    have hvi := Cd.front_one HB0.out.lt hfr
    have hk := (Cd.front_pos hfr).2.1
    have hln := HLEN.out
    obtain ⟨m, hm⟩ : ∃ m, m = l.length - k := ⟨_, rfl⟩
    have hsub : (n : Int) - (m : Int) = (k : Int) := by omega
    have hkn : k ≤ n := by omega
    have hmn : m ≤ n := by omega
    have hkc : k ≤ c := by omega
    have hwr : IntKind.i64.wrap ((k : Nat) : Int) = (k : Int) := IntWalk.i64_in _ (by omega)
    have hk0 := (Cd.front_pos hfr).1
    obtain ⟨ad, rfl, _⟩ := HB0.out.at_ (k := 0) (by omega)
    have HEr := Lib.hid (fun (W : World) (h : Hold w (some ad) n l gr gs gt gu gv gw limit W) => err_e h.fr)
    have HEs := Lib.hid (fun (W : World) (h : Hold w (some ad) n l gr gs gt gu gv gw limit W) => err_e h.fs)
    have HLr := Lib.hid (fun (W : World) (h : Hold w (some ad) n l gr gs gt gu gv gw limit W) => left_e h.fr)
    have HLs := Lib.hid (fun (W : World) (h : Hold w (some ad) n l gr gs gt gu gv gw limit W) => left_e h.fs)
    have hu : Cd.vi (valO true (Cd.front l) 0) = l.take k := by rw [hfr]; simp only [valO]; exact hvi
    have hv : Cd.vi (Cd.zz (valO true (intO l) 0)) = l.take k := by rw [intO_val, hfr]; simp only [valO]; rw [Cd.zz_unzz]; exact hvi
    have htl : (l.take k).length ≤ 140737488351232 := by simp; omega
    have HBu := Lib.hid (fun (W : World) (h : Hold w (some ad) n l gr gs gt gu gv gw limit W) => bytes_e (hu ▸ h.fu) htl)
    have HBv := Lib.hid (fun (W : World) (h : Hold w (some ad) n l gr gs gt gu gv gw limit W) => bytes_e (hv ▸ h.fv) htl)
    simp only [hfr, okO, leftO, Option.isSome_some, Bool.and_true, errOf, if_true, List.length_drop, ← hm] at HEr HEs HLr HLs
    have H0 := Lib.hid HOLD.out.drew
    clear HOLD hm hu hv hvi hln hk htl hxl hyl hsz hk0
    obtain ⟨tk, htk⟩ : ∃ tk, tk = l.take k := ⟨_, rfl⟩
    have HTK := Lib.hid htk
    have HKN := Lib.hid hkn
    have HC := Lib.hid hc
    have HNN := Lib.hid hn
    rw [← htk] at HBu HBv
    clear htk
    go_wp2_with fail
    go_cut [78] (fun v w' => v = .bool false ∧ Hold w (some ad) n l gr gs gt gu gv gw limit w')
    case first =>
      clear hkn hmn hl1 hl2 hn hc hzl
      go_region_with (first
        | (go_at_call_of 18 (ptr (some gr)); refine (HEr.out _ H0.out).mono ?_; rintro e w' ⟨rfl, rfl⟩)
        | (go_at_call_of 13 (ptr (some gu)); refine (HBu.out _ H0.out).mono ?_; rintro e w13 ⟨v13, rfl, ho, hb⟩; obtain ⟨A1, c1, rfl, _, _, hr1⟩ := ho.reads; have H1 := Lib.hid (H0.out.below hb); have hcv1 := run_conv _ A1 _ c1 _ w13 hr1; have hcv2 := run_conv _ (some ad) k c tk w13 (by rw [HTK.out]; exact H1.out.fb.take HKN.out); clear ho hb hr1)
        | (go_at_call_of 17 (ptr (some gr)); refine (HLr.out _ H1.out).mono ?_; rintro e w' ⟨rfl, rfl⟩)
        | (go_at_call_of 18 (ptr (some gs)); refine (HEs.out _ H1.out).mono ?_; rintro e w' ⟨rfl, rfl⟩)
        | (go_at_call_of 13 (ptr (some gv)); refine (HBv.out _ H1.out).mono ?_; rintro e w14 ⟨v14, rfl, ho, hb⟩; obtain ⟨A2, c2, rfl, _, _, hr2⟩ := ho.reads; have H2 := Lib.hid (H1.out.below hb); have hcv3 := run_conv _ A2 _ c2 _ w14 hr2; have hcv4 := run_conv _ (some ad) k c tk w14 (by rw [HTK.out]; exact H2.out.fb.take HKN.out); clear ho hb hr2)
        | (go_at_call_of 17 (ptr (some gs)); refine (HLs.out _ H2.out).mono ?_; rintro e w' ⟨rfl, rfl⟩))
      all_goals
        go_wp2
        go_meet
        case rel => exact ⟨rfl, H2.out⟩
    case rest =>
      obtain ⟨rfl, hold⟩ := hcut
      have H3 := Lib.hid hold
      clear hold H0 HBu HBv HTK
      have HEt := Lib.hid (fun (W : World) (h : Hold w (some ad) n l gr gs gt gu gv gw limit W) => err_e h.ft)
      have HLt := Lib.hid (fun (W : World) (h : Hold w (some ad) n l gr gs gt gu gv gw limit W) => left_e h.ft)
      cases htx : Cd.text l limit with
      | none =>
        simp only [htx, okO, Option.isSome_none, Bool.and_false, errOf, Bool.false_eq_true, if_false] at HEt
        clear HLt
        go_wp2_with fail
        go_quiet (first
          | (go_at_call_of 18 (ptr (some gt)); exact Calls.quiet_of_same ((HEt.out _ (Hold.drewN H3.out _)).mono fun _ _ h => ⟨h.1, h.2.symm⟩)))
        have H4 := Lib.hid (Hold.drewN H3.out nq)
        generalize wc.drewN nq = w14 at H4 ⊢
        go_wp2_with (first | (go_at_call_of 18 (ptr (some gr)); refine (HEr.out _ H4.out).mono ?_; rintro e w' ⟨rfl, rfl⟩) | (go_at_call_of 18 (ptr (some gs)); refine (HEs.out _ H4.out).mono ?_; rintro e w' ⟨rfl, rfl⟩) | (go_at_call 10; refine (alive_any _).mono ?_; rintro e w2 ⟨rfl, hb2⟩; have HB2 := Lib.hid hb2; clear hb2))
        go_ret
        exact ⟨rfl, H4.out.fa.trans (HB2.out.mono H4.out.fa.size)⟩
      | some q =>
        obtain ⟨z, j⟩ := q
        have h256 := HZS.out
        rw [htx] at h256
        simp only [valO] at h256
        have hfb := HLEN.out
        obtain ⟨htx1, htx2, htx3⟩ := Cd.text_one H3.out.fb.lt htx
        have hw : Cd.tx (valO true (Cd.text l limit) []) = l.take j := by rw [htx]; simp only [valO]; exact htx1
        have htl2 : (l.take j).length ≤ 140737488351232 := by simp; omega
        have HBw := Lib.hid (fun (W : World) (h : Hold w (some ad) n l gr gs gt gu gv gw limit W) => bytes_e (hw ▸ h.fw) htl2)
        obtain ⟨m2, hm2⟩ : ∃ m2, m2 = l.length - j := ⟨_, rfl⟩
        have hsub2 : (n : Int) - (m2 : Int) = (j : Int) := by omega
        have hjn : j ≤ n := by omega
        have hmn2 : m2 ≤ n := by omega
        have hjc : j ≤ c := by omega
        have hwr2 : IntKind.i64.wrap ((j : Nat) : Int) = (j : Int) := IntWalk.i64_in _ (by omega)
        simp only [htx, okO, leftO, Option.isSome_some, Bool.and_true, errOf, if_true, List.length_drop, ← hm2] at HEt HLt
        have hlz : (strOf z).size = z.length := by rw [← bs_len, bs_strOf _ h256]
        have hzle : ((strOf z).size : Int) ≤ limit := by rw [hlz]; exact htx2
        have hzb : (strOf z).size ≤ 1048576 := by
          have h1 := hzl
          rw [htx] at h1
          simp only [valO] at h1
          omega
        obtain ⟨tj, htj⟩ : ∃ tj, tj = l.take j := ⟨_, rfl⟩
        have HTJ := Lib.hid htj
        have HJN := Lib.hid hjn
        rw [← htj] at HBw
        obtain ⟨zs, hzs⟩ : ∃ zs, zs = strOf z := ⟨_, rfl⟩
        have hz10 : strOf (valO true (some (z, j)) []) = zs := by rw [hzs]; rfl
        rw [← hzs] at hzle hzb
        rw [hz10]
        clear h256 hfb htx1 htx2 htx3 hw htl2 hm2 hlz htj hzs htx hzl HZS hz10 hsub hkn hmn hkc hwr hl1 hl2 hjn hmn2 hn
        have H5 := Lib.hid H3.out.drew
        go_wp2_with fail
        refine wp_region_any (by kernel_rfl) ?_
        try (change wpAny _ _ _ _ _ _ _ (World.drew _))
        refine wpAny_take (i := 0) (v := ?_) rfl (by kernel_rfl) (by kernel_rfl) (by kernel_rfl) (fun _ _ _ h => h) (Or.inl ⟨by rfl, ?_⟩) ?_
        rotate_left
        · (intro wq; go_simp; try with_reducible rfl)
        refine wpAny_ready (rs := [1]) (by kernel_rfl) (by simp) ?_
        refine AllReady.cons rfl (fun K hK => ?_) AllReady.nil
        go_simp
        go_wp2_with (first | (go_at_call_of 18 (ptr (some gt)); refine (HEt.out _ H5.out).mono ?_; rintro e w' ⟨rfl, rfl⟩))
        refine wpAny_take (i := 2) (v := ?_) rfl (by kernel_rfl) (by kernel_rfl) (by kernel_rfl) (fun _ _ _ h => h) (Or.inl ⟨by rfl, ?_⟩) ?_
        rotate_left
        · (intro wq; go_simp; try with_reducible rfl)
        refine wpAny_take (i := 3) (v := ?_) rfl (by kernel_rfl) (by kernel_rfl) (by kernel_rfl) (fun _ _ _ h => h) (Or.inl ⟨by rfl, ?_⟩) ?_
        rotate_left
        · (intro wq; go_simp; try with_reducible rfl)
        refine wpAny_take (i := 4) (v := ?_) rfl (by kernel_rfl) (by kernel_rfl) (by kernel_rfl) (fun _ _ _ h => h) (Or.inl ⟨by rfl, ?_⟩) ?_
        rotate_left
        · (intro wq; go_simp; try with_reducible rfl)
        refine wpAny_take (i := 7) (v := ?_) rfl (by kernel_rfl) (by kernel_rfl) (by kernel_rfl) (fun _ _ _ h => h) (Or.inl ⟨by rfl, ?_⟩) ?_
        rotate_left
        · (intro wq; go_simp; try with_reducible rfl)
        refine wpAny_take (i := 8) (v := ?_) rfl (by kernel_rfl) (by kernel_rfl) (by kernel_rfl) (fun _ _ _ h => h) (Or.inl ⟨by rfl, ?_⟩) ?_
        rotate_left
        · (intro wq; go_simp; try with_reducible rfl)
        refine wpAny_take (i := 10) (v := ?_) rfl (by kernel_rfl) (by kernel_rfl) (by kernel_rfl) (fun _ _ _ h => h) (Or.inl ⟨by rfl, ?_⟩) ?_
        rotate_left
        · (intro wq; go_simp; try with_reducible rfl)
        refine wpAny_take (i := 9) (v := ?_) rfl (by kernel_rfl) (by kernel_rfl) (by kernel_rfl) (fun _ _ _ h => h) (Or.inl ⟨by rfl, ?_⟩) ?_
        rotate_left
        · (intro wq; go_simp; try with_reducible rfl)
        refine wpAny_ready (rs := [5]) (by kernel_rfl) (by simp) ?_
        refine AllReady.cons rfl (fun K hK => ?_) AllReady.nil
        go_simp
        go_wp2_with (first | (go_at_call_of 13 (ptr (some gw)); refine (HBw.out _ H5.out).mono ?_; rintro e w15 ⟨v15, rfl, ho, hb⟩; obtain ⟨A3, c3, rfl, _, _, hr3⟩ := ho.reads; have H6 := Lib.hid (H5.out.below hb); have hcv5 := fun m : Nat => run_conv _ A3 _ c3 _ (w15.drewN m) (hr3.drewN m); have hcv6 := fun m : Nat => run_conv _ (some ad) j c tj (w15.drewN m) (by rw [HTJ.out]; exact (H6.out.fb.take HJN.out).drewN m); clear ho hb hr3))
        refine rest_quietD d0 [6, 11, 12, 13, 14, 15, 16, 17, 18, 19, 20, 21, 22] _ _ _ _ _ rfl (by simp only [pickD, List.map_cons, List.map_nil, List.getD_cons_succ, List.getD_cons_zero]; rfl) (by kernel_rfl) (by kernel_rfl) ?_
        repeat (go_big_quiet_step (first
          | (go_at_call_of 17 (ptr (some gt)); exact Calls.quiet_of_same ((HLt.out _ (Hold.drewN H6.out _)).mono fun _ _ h => ⟨h.1, h.2.symm⟩))))
        refine wpQuiet_nil ?_
        intro w16 hw16
        obtain ⟨nq, hw16⟩ := hw16
        subst hw16
        have H7 := Lib.hid (Hold.drewN H6.out nq)
        generalize w15.drewN nq = w16 at H7 ⊢
        clear hcv5 hcv6 H6 H5
        go_wp2_with (first | (go_at_call_of 18 (ptr (some gr)); refine (HEr.out _ H7.out).mono ?_; rintro e w' ⟨rfl, rfl⟩) | (go_at_call_of 18 (ptr (some gs)); refine (HEs.out _ H7.out).mono ?_; rintro e w' ⟨rfl, rfl⟩) | (go_at_call 10; refine (alive_any _).mono ?_; rintro e w2 ⟨rfl, hb2⟩; have HB2 := Lib.hid hb2; clear hb2))
        go_ret
        exact ⟨rfl, H7.out.fa.trans (HB2.out.mono H7.out.fa.size)⟩

set_option maxRecDepth 100000 in
theorem walked (A : Option Addr) (n c : Nat) (l : List Nat) (limit : Int) (w : World) (h : In w A n c l) (hl1 : -9223372036854775808 ≤ limit) (hl2 : limit ≤ 9223372036854775807) :
    Calls Try.prog 6 #[.slice A n c, .int .i64 limit] w fun e w' => e = .returned (.bool true) ∧ Below w.heap.size w w' := by
  by_cases hn : n ≤ 1048576
  · exact walk_all A n c l limit w h hl1 hl2 hn
  · have hn1 : 1048576 < n := by omega
    clear hn h hl1 hl2
    go_enter Try.func6, Try.ntmps6
    go_wp2_with (go_at_call 10; refine (alive_any _).mono ?_; rintro e w1 ⟨rfl, hb⟩)
    go_ret
    exact ⟨rfl, hb⟩
end Go.Proofs.Ytbjcojmapbiaaaa.codeOne
