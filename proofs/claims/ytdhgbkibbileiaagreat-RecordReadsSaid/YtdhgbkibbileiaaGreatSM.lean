/-
SM
-/
import Derived.Test.YtdhgbkibbileiaaGreatSA
namespace Go.Proofs.YtdhgbkibbileiaaGreat
open Go.RowKit
theorem rI_vi (x : Nat) (hx : x < 18446744073709551616) (r : List Nat) : rI true (Cd.vi x ++ r) = (x, true, r) := by
 unfold rI
 rw [Cd.front_vi x hx r]
 simp [valO, okO, leftO]
theorem rB_fix (x : Nat) (r : List Nat) : rB true (Cd.fixB 1 x ++ r) = (x % 256, true, r) := by
 have h1 := Cd.fixB_len 1 x
 unfold rB fixO
 rw [show takeO (Cd.fixB 1 x ++ r) ((1 : Nat) : Int) = some ((Cd.fixB 1 x ++ r).take 1, 1) from takeO_yes (by rw [List.length_append]; omega)]
 have h2 : (Cd.fixB 1 x ++ r).take 1 = Cd.fixB 1 x := by rw [List.take_append_of_le_length (by omega), List.take_of_length_le (by omega)]
 have h3 : (Cd.fixB 1 x ++ r).drop 1 = r := by rw [List.drop_append_of_le_length (by omega), List.drop_of_length_le (by omega), List.nil_append]
 simp only [Option.map_some, valO, okO, leftO, h2, h3, Cd.unfix_fixB, Option.isSome_some, Bool.and_self, Nat.pow_one]
theorem rT_tx (s : List Nat) (h : s.length ≤ 180) (r : List Nat) : rT true (Cd.tx s ++ r) = (s, true, r) := by
 unfold rT
 rw [Cd.text_tx s 180 (by omega) (by omega) r]
 simp [valO, okO, leftO]
theorem rR_raw (d r : List Nat) : rR true (d ++ r) (d.length : Int) = (d, true, r) := by
 unfold rR
 rw [takeO_yes (by rw [List.length_append]; omega)]
 simp [valO, okO, leftO]
theorem i64n_small {n : Nat} (h : n < 9223372036854775808) : i64n n = (n : Int) := by unfold i64n; rw [IntKind.wrap_i64]; omega
theorem n32_small {n : Nat} (h : n < 4294967296) : n32 n = n := by unfold n32; omega
theorem cmay_len {c : CE} (h : cmay c = true) : c.d.length ≤ 180 ∧ (c.u = true → c.d.length ≠ 0) ∧ (c.u = false → c = cz) := by
 unfold cmay at h
 obtain ⟨u, k, d⟩ := c
 cases u with
 | true => simp at h; exact ⟨h.2, fun _ => by show d.length ≠ 0; have := h.1; omega, fun h => by cases h⟩
 | false =>
   simp at h
   refine ⟨by show d.length ≤ 180; rw [h.2]; decide, (fun h => by cases h), fun _ => ?_⟩
   rw [h.1, h.2]; rfl
theorem rC_enc_ (c : CE) (hc : cmay c = true) (hk : c.k < 4294967296) (r : List Nat) : rC true (encC c ++ r) = (c, true, r) := by
 obtain ⟨h1, h2, h3⟩ := cmay_len hc
 unfold encC
 cases hu : c.u with
 | true =>
   have h2 := h2 hu
   simp only [if_true, List.append_assoc]
   have e1 := rI_vi c.d.length (by omega) (Cd.vi c.k ++ (c.d ++ r))
   have e2 := rI_vi c.k (by omega) (c.d ++ r)
   have e3 := rR_raw c.d r
   unfold rC
   simp only [e1, if_neg h2, e2, i64n_small (show c.d.length < 9223372036854775808 by omega), e3, n32_small hk]
   obtain ⟨u, k, d⟩ := c
   simp only at hu
   rw [hu]
 | false =>
   have h3 := h3 hu
   rw [h3]
   have e1 := rI_vi (cz.d.length) (by decide) r
   simp only [Bool.false_eq_true, if_false, List.append_nil]
   unfold rC
   simp only [e1]
   rfl
theorem rLC_enc_ (l : List CE) (hl : ∀ c ∈ l, cmay c = true ∧ c.k < 4294967296) (r : List Nat) : rLC l.length true (l.flatMap encC ++ r) = (l, true, r) := by
 induction l with
 | nil => simp [rLC]
 | cons c t ih =>
   have h1 := rC_enc_ c (hl c List.mem_cons_self).1 (hl c List.mem_cons_self).2 (t.flatMap encC ++ r)
   have h2 := ih fun x hx => hl x (List.mem_cons_of_mem _ hx)
   simp only [List.length_cons, List.flatMap_cons, List.append_assoc, rLC, if_true, h1, h2]
theorem rLCs_enc_ (l : List CE) (hn : l.length < 18446744073709551616) (hl : ∀ c ∈ l, cmay c = true ∧ c.k < 4294967296) (r : List Nat) : rLCs true (encL encC l ++ r) = (l, true, r) := by
 unfold rLCs encL
 rw [List.append_assoc, rI_vi _ hn]
 exact rLC_enc_ l hl r
structure IE.In (i : IE) : Prop where
 t : i.t < 4294967296
 x : i.x < 4294967296
 c : ∀ c ∈ i.es, c.k < 4294967296
theorem may_kind {k : Int} {l : List CE} (h : may k l = true) : (k = 1 ∨ k = 2 ∨ k = 3) ∧ l.length ≤ 60 ∧ ∀ c ∈ l, cmay c = true := by
 unfold may stand at h
 simp only [Bool.and_eq_true, decide_eq_true_eq, List.all_eq_true] at h
 obtain ⟨h1, h2, _, h4⟩ := h
 refine ⟨?_, h1, h2⟩
 by_cases k1 : k = 1
 ·exact Or.inl k1
 ·by_cases k3 : k = 3
  ·exact Or.inr (Or.inr k3)
  ·by_cases k2 : k = 2
   ·exact Or.inr (Or.inl k2)
   ·rw [if_neg k1, if_neg k3, if_neg k2] at h4; cases h4
theorem rJ_enc_ (i : IE) (hi : i.In) (hs : i.s = 0) (hm : may i.k i.es = true) (r : List Nat) : rJ true (encIE i ++ r) = (i, true, r) := by
 obtain ⟨hk, hl, hc⟩ := may_kind hm
 have hkb : i64n (kb i.k % 256) = i.k := by
  rcases hk with h | h | h <;> rw [h] <;> decide
 have ht := hi.t
 have hx := hi.x
 have e1 := rI_vi i.t (by omega) (Cd.fixB 1 (kb i.k) ++ (Cd.vi i.x ++ (encL encC i.es ++ r)))
 have e2 := rB_fix (kb i.k) (Cd.vi i.x ++ (encL encC i.es ++ r))
 have e3 := rI_vi i.x (by omega) (encL encC i.es ++ r)
 have e4 := rLCs_enc_ i.es (by omega) (fun c h => ⟨hc c h, hi.c c h⟩) r
 unfold encIE encP rJ
 simp only [List.append_assoc, e1, e2, e3, e4, n32_small ht, n32_small hx, hkb]
 obtain ⟨t, k, s, x, es⟩ := i
 simp only at hs
 rw [hs]
theorem rLJ_enc_ (l : List IE) (hl : ∀ i ∈ l, i.In ∧ i.s = 0 ∧ may i.k i.es = true) (r : List Nat) : rLJ l.length true (l.flatMap encIE ++ r) = (l, true, r) := by
 induction l with
 | nil => simp [rLJ]
 | cons c t ih =>
   obtain ⟨a, b, d⟩ := hl c List.mem_cons_self
   have h1 := rJ_enc_ c a b d (t.flatMap encIE ++ r)
   have h2 := ih fun x hx => hl x (List.mem_cons_of_mem _ hx)
   simp only [List.length_cons, List.flatMap_cons, List.append_assoc, rLJ, if_true, h1, h2]
theorem rLJs_enc_ (l : List IE) (hn : l.length < 18446744073709551616) (hl : ∀ i ∈ l, i.In ∧ i.s = 0 ∧ may i.k i.es = true) (r : List Nat) : rLJs true (encL encIE l ++ r) = (l, true, r) := by
 unfold rLJs encL
 rw [List.append_assoc, rI_vi _ hn]
 exact rLJ_enc_ l hl r
def LV.Ok (x : LV) : Prop := x.t < 4294967296 ∧ x.a < 18446744073709551616 ∧ x.b < 18446744073709551616
def DV.Ok (x : DV) : Prop := x.t < 4294967296 ∧ x.a < 18446744073709551616
theorem rV_enc_ (x : LV) (h : x.Ok) (r : List Nat) : rV true (encV x ++ r) = (x, true, r) := by
 obtain ⟨t, a, b, z⟩ := x
 obtain ⟨h1, h2, h3⟩ := h
 simp only at h1 h2 h3
 have e1 := rI_vi t (by omega) (Cd.vi a ++ (Cd.vi b ++ (Cd.fixB 1 (if z then 1 else 0) ++ r)))
 have e2 := rI_vi a h2 (Cd.vi b ++ (Cd.fixB 1 (if z then 1 else 0) ++ r))
 have e3 := rI_vi b h3 (Cd.fixB 1 (if z then 1 else 0) ++ r)
 have e4 := rB_fix (if z then 1 else 0) r
 unfold encV rV
 simp only [List.append_assoc, e1, e2, e3, e4, n32_small h1]
 cases z <;> rfl
theorem rLV_enc_ (l : List LV) (hl : ∀ i ∈ l, i.Ok) (r : List Nat) : rLV l.length true (l.flatMap encV ++ r) = (l, true, r) := by
 induction l with
 | nil => simp [rLV]
 | cons c t ih =>
   have h1 := rV_enc_ c (hl c List.mem_cons_self) (t.flatMap encV ++ r)
   have h2 := ih fun x hx => hl x (List.mem_cons_of_mem _ hx)
   simp only [List.length_cons, List.flatMap_cons, List.append_assoc, rLV, if_true, h1, h2]
theorem rLVs_enc_ (l : List LV) (hn : l.length < 18446744073709551616) (hl : ∀ i ∈ l, i.Ok) (r : List Nat) : rLVs true (encL encV l ++ r) = (l, true, r) := by
 unfold rLVs encL
 rw [List.append_assoc, rI_vi _ hn]
 exact rLV_enc_ l hl r
theorem rD_enc_ (x : DV) (h : x.Ok) (r : List Nat) : rD true (encD x ++ r) = (x, true, r) := by
 obtain ⟨t, a⟩ := x
 obtain ⟨h1, h2⟩ := h
 simp only at h1 h2
 have e1 := rI_vi t (by omega) (Cd.vi a ++ r)
 have e2 := rI_vi a h2 r
 unfold encD rD
 simp only [List.append_assoc, e1, e2, n32_small h1]
theorem rLD_enc_ (l : List DV) (hl : ∀ i ∈ l, i.Ok) (r : List Nat) : rLD l.length true (l.flatMap encD ++ r) = (l, true, r) := by
 induction l with
 | nil => simp [rLD]
 | cons c t ih =>
   have h1 := rD_enc_ c (hl c List.mem_cons_self) (t.flatMap encD ++ r)
   have h2 := ih fun x hx => hl x (List.mem_cons_of_mem _ hx)
   simp only [List.length_cons, List.flatMap_cons, List.append_assoc, rLD, if_true, h1, h2]
theorem rLDs_enc_ (l : List DV) (hn : l.length < 18446744073709551616) (hl : ∀ i ∈ l, i.Ok) (r : List Nat) : rLDs true (encL encD l ++ r) = (l, true, r) := by
 unfold rLDs encL
 rw [List.append_assoc, rI_vi _ hn]
 exact rLD_enc_ l hl r
structure RE.In (r : RE) : Prop where
 t : r.t < 4294967296
 a : r.a < 18446744073709551616
 b : r.b < 18446744073709551616
 pg : r.pg < 4294967296
 rt : r.rt < 4294967296
 nx : r.nx < 4294967296
 o : r.o.t < 4294967296
 i : ∀ x ∈ r.il, x.In
 l : ∀ x ∈ r.ll, x.Ok
 d : ∀ x ∈ r.dl, x.Ok
 il : r.il.length < 18446744073709551616
 ll : r.ll.length < 18446744073709551616
 dl : r.dl.length < 18446744073709551616
theorem RV.In.e {w : World} {T : Nat → Prop} {r : RV} (h : r.In w T) : r.e.In := by
 have h2 := h.i.1
 have h3 := h.l.1
 have h4 := h.d.1
 have k2 := h.i.2.2.1
 have k3 := h.l.2.2.1
 have k4 := h.d.2.2.1
 refine ⟨h.t, h.a, h.b, h.pg, h.rt, h.nx, h.o.t, fun x hx => ?_, fun x hx => ?_, fun x hx => ?_, ?_, ?_, ?_⟩
 ·obtain ⟨y, hy, rfl⟩ := List.mem_map.1 hx
  have hyi := h.i.2.1 y hy
  refine ⟨hyi.t, hyi.p.x, fun c hc => ?_⟩
  obtain ⟨z, hz, rfl⟩ := List.mem_map.1 hc
  exact (hyi.p.r.2.1 z hz).k
 ·have := h.l.2.1 x hx; exact ⟨this.t, this.a, this.b⟩
 ·have := h.d.2.1 x hx; exact ⟨this.t, this.a⟩
 ·show (r.il.map IV.e).length < _; rw [List.length_map]; omega
 ·show r.ll.length < _; omega
 ·show r.dl.length < _; omega
theorem right_parts {kd k s : Int} {t m : Nat} (h : rightP kd k s t m = true) : 1 ≤ k ∧ k ≤ 4 ∧ m ≤ 180 := by
 unfold rightP at h
 split at h; · cases h
 split at h; · cases h
 split at h; · cases h
 split at h; · cases h
 rename_i a b c d
 refine ⟨by omega, by omega, ?_⟩
 have hd : dataOk m = true → m ≤ 180 := fun h => by
  unfold dataOk at h
  simp only [Bool.and_eq_true, decide_eq_true_eq] at h
  omega
 split at h
 ·split at h
  ·exact hd h
  ·cases h
 ·split at h
  ·exact hd h
  ·rw [decide_eq_true_eq] at h; omega
theorem rO_enc_ (o : ON) (hk : 1 ≤ o.k ∧ o.k ≤ 4) (hs : 0 ≤ o.s ∧ o.s < 60) (ht : o.t < 4294967296) (hd : o.d.length ≤ 180) (r : List Nat) : rO true (encO o.k o.s o.t o.d ++ r) = (o, true, r) := by
 obtain ⟨k, s, t, d⟩ := o
 simp only at hk hs ht hd
 have hu : ub s < 60 := by unfold ub; omega
 have e1 := rB_fix (kb k) (Cd.vi (ub s) ++ (Cd.vi t ++ (Cd.tx d ++ r)))
 have e2 := rI_vi (ub s) (by omega) (Cd.vi t ++ (Cd.tx d ++ r))
 have e3 := rI_vi t (by omega) (Cd.tx d ++ r)
 have e4 := rT_tx d hd r
 have hkb : ((kb k % 256 : Nat) : Int) = k := by unfold kb; omega
 have hub : i64n (ub s) = s := by rw [i64n_small (by omega)]; unfold ub; omega
 unfold encO rO
 simp only [List.append_assoc, e1, e2, e3, e4, n32_small ht, hkb, hub]
theorem run_field {u z : Bool} {step : Step} {ms : List (Bool × Step)} {q q' : RE} {e rest : List Nat} (hu : u = true → step q true (e ++ rest) = (q', true, rest)) (hn : u = false → q' = q) :
  runS ((u, step) :: ms) q true (encX (u, z, e) ++ rest) = runS ms q' true rest := by
 cases u with
 | true =>
   have h := hu rfl
   unfold encX
   simp only [if_true, runS, h]
 | false =>
   have h := hn rfl
   subst h
   unfold encX
   simp only [Bool.false_eq_true, if_false, List.nil_append, runS]
theorem kind_in {r : RE} (h : fitsE r = true) : 1 ≤ r.k ∧ r.k ≤ 8 := by
 unfold fitsE at h
 by_cases h1 : r.k = 2 ∨ r.k = 3
 ·omega
 ·rw [if_neg h1] at h
  by_cases h2 : r.k = 1 ∨ r.k = 5 ∨ r.k = 6 ∨ r.k = 7
  ·omega
  ·rw [if_neg h2] at h
   by_cases h3 : r.k = 4
   ·omega
   ·rw [if_neg h3] at h
    by_cases h4 : r.k = 8
    ·omega
    ·rw [if_neg h4] at h; cases h
theorem op_in {r : RE} (h : fitsE r = true) (hu : uO r.k = true) : (1 ≤ r.o.k ∧ r.o.k ≤ 4) ∧ (0 ≤ r.o.s ∧ r.o.s < 60) ∧ r.o.d.length ≤ 180 := by
 unfold uO at hu
 rw [decide_eq_true_eq] at hu
 unfold fitsE at h
 rw [if_pos hu] at h
 unfold foE at h
 simp only [Bool.and_eq_true, decide_eq_true_eq] at h
 obtain ⟨_, ⟨_, h2, h3, h4⟩, _⟩ := h
 obtain ⟨a, b, c⟩ := right_parts h2
 exact ⟨⟨a, b⟩, ⟨h3, h4⟩, c⟩
theorem im_in {r : RE} (h : fitsE r = true) (hu : uI r.k = true) : ∀ x ∈ r.il, x.s = 0 ∧ may x.k x.es = true := by
 unfold uI at hu
 rw [decide_eq_true_eq] at hu
 unfold fitsE at h
 rw [if_neg (by omega), if_neg (by omega), if_pos hu] at h
 unfold freshE at h
 simp only [Bool.and_eq_true, decide_eq_true_eq, List.all_eq_true] at h
 exact h.2.2
def RE.bare (r : RE) : RE := { r with s := 0 }
theorem readR_enc {r : RE} (hr : r.In) (hf : fitsE r = true) (ho : okE r = true) : readR (encE r) = r.bare := by
 have hk := kind_in hf
 have hkb : kb r.k % 256 = kb r.k := Nat.mod_eq_of_lt (kb_lt _)
 have hki : i64n (kb r.k) = r.k := by rw [i64n_small (by have := kb_lt r.k; omega)]; unfold kb; omega
 have hb := rB_fix (kb r.k) ((fmE r).flatMap encX)
 rw [hkb] at hb
 unfold readR encE
 rw [hb]
 simp only [hki]
 have hall : ∀ x ∈ fmE r, x.1 = false → x.2.1 = true := fun x hx h => by
  have := List.all_eq_true.1 ho x hx
  rw [h] at this
  simpa using this
 obtain ⟨k, s, t, a, b, pg, rt, ⟨ok, os, ot, od⟩, il, ll, dl, nx⟩ := r
 have hall' : ∀ x ∈ fmE ⟨k, s, t, a, b, pg, rt, ⟨ok, os, ot, od⟩, il, ll, dl, nx⟩, x.1 = false → x.2.1 = true := hall
 unfold fmE at hall'
 simp only [List.mem_cons, List.not_mem_nil, or_false, forall_eq_or_imp, forall_eq, decide_eq_true_eq] at hall'
 obtain ⟨z0, z1, z2, z3, z4, z5, z6, z7, z8, z9⟩ := hall'
 have g := hr
 have c5 := fun h => op_in hf h
 have c6 := fun h => im_in hf h
 simp only at c5 c6
 unfold fsteps fmE rz RV.e OV.n RE.bare
 simp only [List.flatMap_cons, List.flatMap_nil, List.map_nil]
 rw [run_field (q' := ⟨k, 0, t, 0, 0, 0, 0, ⟨0, 0, 0, []⟩, [], [], [], 0⟩) (fun _ => by unfold s71; rw [rI_vi _ (by have := g.t; simp only at this; omega)]; simp only [n32_small g.t]) (fun h => by rw [z0 h])]
 rw [run_field (q' := ⟨k, 0, t, a, 0, 0, 0, ⟨0, 0, 0, []⟩, [], [], [], 0⟩) (fun _ => by unfold s72; rw [rI_vi _ g.a]) (fun h => by rw [z1 h])]
 rw [run_field (q' := ⟨k, 0, t, a, b, 0, 0, ⟨0, 0, 0, []⟩, [], [], [], 0⟩) (fun _ => by unfold s73; rw [rI_vi _ g.b]) (fun h => by rw [z2 h])]
 rw [run_field (q' := ⟨k, 0, t, a, b, pg, 0, ⟨0, 0, 0, []⟩, [], [], [], 0⟩) (fun _ => by unfold s74; rw [rI_vi _ (by have := g.pg; simp only at this; omega)]; simp only [n32_small g.pg]) (fun h => by rw [z3 h])]
 rw [run_field (q' := ⟨k, 0, t, a, b, pg, rt, ⟨0, 0, 0, []⟩, [], [], [], 0⟩) (fun _ => by unfold s75; rw [rI_vi _ (by have := g.rt; simp only at this; omega)]; simp only [n32_small g.rt]) (fun h => by rw [z4 h])]
 rw [run_field (q' := ⟨k, 0, t, a, b, pg, rt, ⟨ok, os, ot, od⟩, [], [], [], 0⟩) (fun h => by unfold s79; rw [rO_enc_ ⟨ok, os, ot, od⟩ (c5 h).1 (c5 h).2.1 g.o (c5 h).2.2]) (fun h => by
  have := z5 h
  unfold noopE at this
  simp only [Bool.and_eq_true, decide_eq_true_eq] at this
  obtain ⟨a1, a2, a3, a4⟩ := this
  rw [a1, a2, a3, List.eq_nil_of_length_eq_zero a4])]
 rw [run_field (q' := ⟨k, 0, t, a, b, pg, rt, ⟨ok, os, ot, od⟩, il, [], [], 0⟩) (fun h => by unfold s84; rw [rLJs_enc_ il g.il (fun x hx => ⟨g.i x hx, c6 h x hx⟩)]) (fun h => by rw [List.eq_nil_of_length_eq_zero (z6 h)])]
 rw [run_field (q' := ⟨k, 0, t, a, b, pg, rt, ⟨ok, os, ot, od⟩, il, ll, [], 0⟩) (fun _ => by unfold s88; rw [rLVs_enc_ ll g.ll g.l]) (fun h => by rw [List.eq_nil_of_length_eq_zero (z7 h)])]
 rw [run_field (q' := ⟨k, 0, t, a, b, pg, rt, ⟨ok, os, ot, od⟩, il, ll, dl, 0⟩) (fun _ => by unfold s92; rw [rLDs_enc_ dl g.dl g.d]) (fun h => by rw [List.eq_nil_of_length_eq_zero (z8 h)])]
 rw [run_field (q' := ⟨k, 0, t, a, b, pg, rt, ⟨ok, os, ot, od⟩, il, ll, dl, nx⟩) (fun _ => by unfold s93; rw [rI_vi _ (by have := g.nx; simp only at this; omega)]; simp only [n32_small g.nx]) (fun h => by rw [z9 h])]
 rfl
end Go.Proofs.YtdhgbkibbileiaaGreat
