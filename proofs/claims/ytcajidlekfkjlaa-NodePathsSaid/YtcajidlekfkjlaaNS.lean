/-
STAGE 8: what Check asks of a leaf that is the root.
-/
import Derived.Test.YtcajidlekfkjlaaNR
namespace Go.Proofs.Ytcajidlekfkjlaa
open Go.RowKit

set_option maxRecDepth 100000 in
theorem infoST : (Try.prog.info? 82).map (fun i => (i.zero, i.size, i.bytes)) = some (some (.agg #[.int .u32 0, .int .i64 0, .int .u64 0, .int .u32 0, .slice none 0 0, .int .i64 0, .slice none 0 0, .slice none 0 0]), 8, 112) := by kernel_rfl
/-- a stop's cells -/
def stc (n : Nat) (p : PV) (d : Int) (f t : Value) : List Value := [.int .u32 (n : Int), .int .i64 p.k, .int .u64 (p.s : Int), .int .u32 (p.x : Int), .slice p.A p.n p.c, .int .i64 d, f, t]
set_option maxRecDepth 100000 in
theorem run_appS (ty : TypeId) (w : World) (g c : Nat) (cs : List Value) (hl : cs.length = 8) (h1 : ∀ u ∈ cs, u.oneCell' = true) (hx : Blk w g 82 cs.toArray) :
    ∃ q cap w', (Builtin.append_ #[99, 99] ty #[.slice none 0 0, .slice (some ⟨g, 0, none⟩) 1 c]).run Try.prog w = .ok (.slice (some ⟨q, 0, none⟩) 1 cap) w' ∧ (∀ i u, cs[i]? = some u → w'.cell? ⟨q, i, none⟩ = some u) ∧ q < w'.heap.size ∧ w.heap.size ≤ q ∧ Below w.heap.size w w' := by
  obtain ⟨i0, hi, hz0, hz1, hz2⟩ := info_parts infoST
  have hcells : ∀ j u, cs[j]? = some u → w.cell? ((⟨g, 0, none⟩ : Addr).add j) = some u := by
    intro j u hu
    rw [add_head, hx.cell j]
    simpa using hu
  obtain ⟨v', w', h2, h3, h4, _, h5⟩ := run_append_own_at (P := Try.prog) w 0 99 ty 82 i0 (.agg #[.int .u32 0, .int .i64 0, .int .u64 0, .int .u32 0, .slice none 0 0, .int .i64 0, .slice none 0 0, .slice none 0 0]) 8 112 Try.underlying99 hi hz0 hz1 hz2 (by decide) (by decide) (.slice none 0 0) 0 [] (World.ownsRow_nil w 0 82 8) ⟨g, 0, none⟩ 1 c cs
    (by rw [hl]) hcells h1 (by simp [maxLen]) (by decide) (Nat.zero_le _)
  have hb : Below w.heap.size w w' := (((Fr.refl w No).grown h4) (fun k hk => by simp [Value.ownBlock] at hk)).no_below
  rcases h3.2 with ⟨rfl, h0⟩ | ⟨q, cap, cur, rfl, _, hh, hc, hm, hcur, htake⟩
  · omega
  · refine ⟨q, cap, w', h2, fun i u hu => ?_, Blk.lt hh, ?_, hb⟩
    · rw [Blk.cell hh i]
      have hil : i < 8 := by
        rcases Nat.lt_or_ge i 8 with h | h
        · exact h
        · rw [List.getElem?_eq_none (by omega)] at hu; cases hu
      simp only [List.nil_append] at htake
      rw [← htake, List.getElem?_take_of_lt (by omega)] at hu
      simpa using hu
    · rcases h5 with h5 | h5
      · simp [Value.ownBlock] at h5
      · simp [Value.ownBlock] at h5; omega
section
variable {w : World} {ops : Array Oper} {rest : List Oper} {o : Oper} {a : Act} {Q : Exit → Act → World → Prop}
set_option maxRecDepth 100000 in
theorem wpList_appS (hgd : o.guard = none) (s x : Operand) (ho : o.op = .call { callee := .builtin .append, args := #[s, x], argTypes := #[99, 99] })
    (hs : a.eval s = .slice none 0 0) (g c : Nat) (cs : List Value) (hl : cs.length = 8) (h1 : ∀ u ∈ cs, u.oneCell' = true) (hx : a.eval x = .slice (some ⟨g, 0, none⟩) 1 c) (hb : Blk w g 82 cs.toArray)
    (hK : ∀ q cap w', (∀ i u, cs[i]? = some u → w'.cell? ⟨q, i, none⟩ = some u) → q < w'.heap.size → w.heap.size ≤ q → Below w.heap.size w w' → wpList Try.prog ops Q rest (a.put o.dst (.slice (some ⟨q, 0, none⟩) 1 cap)) w') : wpList Try.prog ops Q (o :: rest) a w := by
  refine wpList_plain hgd fun K hk => ?_
  obtain ⟨q, cap, w', hrun, h2, h3, h4, h5⟩ := run_appS o.type w g c cs hl h1 hb
  unfold Oper.wp execOp
  simp only [ho, resolve, invoke, builtin, Sem.run_bind, Sem.run_pure, Result.andThen_ok, List.map_toArray, List.map_cons, List.map_nil, hs, hx, hrun]
  exact hk _ _ (hK q cap w' h2 h3 h4 h5)
end
set_option maxRecDepth 100000 in
theorem ltb_nil (x : List Nat) : ltb x [] = false := by
  unfold ltb u8l
  cases x <;> simp [Op.bytesLess]
set_option maxRecDepth 100000 in
theorem lies_nil (x : List Nat) : lies [] [] x = true := by
  unfold lies
  rw [ltb_nil]
  rfl
/-- a variable with a row of one stop -/
def StopAt (w0 w : World) (a : Nat) (cs : List Value) : Prop := ∃ g cap, Blk w a 99 #[.slice (some ⟨g, 0, none⟩) 1 cap] ∧ (∀ i u, cs[i]? = some u → w.cell? ⟨g, i, none⟩ = some u) ∧ g < w.heap.size ∧ w0.heap.size ≤ g
set_option maxHeartbeats 4000000 in
set_option maxRecDepth 100000 in
theorem chk1_leaf (n : Nat) (p : PV) (hk : p.k = 2) (a : Nat) (w : World) (ha : Blk w a 99 #[.slice none 0 0]) (hp : p.In w All All) (hn : p.n ≤ 1000) (hE : ∀ x ∈ p.l, 1 ≤ x.m ∧ x.m ≤ 146) :
    Calls Try.prog 56 #[stopV n p 1 (.slice none 0 0) (.slice none 0 0), .pointer (some ⟨a, 0, none⟩)] w fun e w' => e = .returned (.tuple #[]) ∧ StopAt w w' a (stc n p 1 (.slice none 0 0) (.slice none 0 0)) ∧ Fr w w' (fun b => b = a) := by
  obtain ⟨W, hW⟩ : ∃ W, W = w.alloc (.cells (stc n p 1 (.slice none 0 0) (.slice none 0 0)).toArray 82) := ⟨_, rfl⟩
  have hbW : Below w.heap.size w W := by rw [hW]; exact (Below.refl _ _).alloc (Nat.le_refl _) _
  have kW : Blk W w.heap.size 82 (stc n p 1 (.slice none 0 0) (.slice none 0 0)).toArray := by rw [hW]; exact Blk.new w 82 _
  have aW := ha.below hbW ha.lt
  have HP := Lib.hid hp
  have HAL := Lib.hid ha.lt
  have HE := Lib.hid hE
  have HN := Lib.hid hn
  have HK := Lib.hid kW
  have HA := Lib.hid aW
  have HBW := Lib.hid hbW
  have HMY := Lib.hid (fun W => must_yes 5 W)
  have HMQ := Lib.hid (fun W => (must_yes 5 W).mono (R' := fun e w' => e = .returned (.tuple #[]) ∧ w' = W) fun e w' ⟨he, hw⟩ => ⟨he, hw.symm⟩)
  obtain ⟨st, hst⟩ : ∃ st, st = stc n p 1 (.slice none 0 0) (.slice none 0 0) := ⟨_, rfl⟩
  have HST := Lib.hid hst
  obtain ⟨pk, ps, px, pA, pn, pc, pl⟩ := p
  have d1 : (pk == 2) = true := by dsimp only at hk; rw [hk]; rfl
  have HPK := Lib.hid hk
  dsimp only at HE HN
  unfold stopV
  unfold stc at hW kW
  dsimp only at hW kW ⊢
  have x1 := kW.cell 1
  have x4 := kW.cell 4
  rw [hW] at x1 x4
  have HW := Lib.hid hW
  clear hp ha hE hn kW aW hbW hst hW hk
  go_enter Try.func56, Try.ntmps56
  go_wp2_with fail
  rw [← HW.out]
  clear x1 x4
  go_loopw [10] (fun i wr => ∃ k : Nat, k ≤ pn ∧ i = .int .i64 (k : Int) ∧ Below W.heap.size W wr) (fun i _ => pn - (intOf i).toNat)
  case atStart => exact ⟨0, Nat.zero_le _, rfl, Below.refl _ _⟩
  case round =>
    obtain ⟨k, hk, rfl, hbr⟩ := hrel
    have HBR := Lib.hid hbr
    have kr := HK.out.below hbr HK.out.lt
    unfold stc at kr
    dsimp only at kr
    have x1 := kr.cell 1
    have x4 := kr.cell 4
    have x5 := kr.cell 5
    have x6 := kr.cell 6
    have x7 := kr.cell 7
    have x0 := kr.cell 0
    have x2 := kr.cell 2
    have x3 := kr.cell 3
    have HKR := Lib.hid kr
    clear hbr kr
    by_cases hlt : k < pn
    · have hws : IntKind.i64.wrap ((k : Int) + 1) = ((k + 1 : Nat) : Int) := by rw [IntWalk.i64_in _ (by have := HN.out; omega)]; omega
      obtain ⟨g, o, x, hA, hgl, _, hx, hxi, c0, c1, c2⟩ := (HP.out.r.below (HBW.out.trans (HBR.out.mono HBW.out.size))).at_ hlt
      dsimp only at hA
      subst hA
      obtain ⟨hm1, hm2⟩ := HE.out x (List.mem_of_getElem? hx)
      have HLT := Lib.hid hlt
      have d9 : decide ((k : Int) < (pn : Int)) = true := decide_eq_true (by omega)
      have d9b : decide (k < pn) = true := decide_eq_true hlt
      have hz := HKR.out.lt
      obtain ⟨u, kk, xA, m, xc, d⟩ := x
      dsimp only at c0 c1 c2 hm1 hm2
      have he0 : eo pk = 0 := by unfold eo; rw [if_neg (by have := HPK.out; omega)]
      have hen := fun W' (hW' : Below wr.heap.size wr W') => entryOf_any pk (⟨u, kk, xA, m, xc, d⟩ : CV) W' (hxi.below hW') (by rw [he0]; exact Nat.zero_le _)
      rw [he0] at hen
      have hie := fun W' => isEntry_any xA m xc W'
      rw [decide_eq_true hm1, decide_eq_true hm2] at hie
      have hha := fun W' (hW' : Below wr.heap.size wr W') => has_any (Tf := All) (Tt := All) none none xA 0 0 0 0 m xc [] [] d W' RB.nil_ RB.nil_ (hxi.below hW').b
      rw [lies_nil] at hha
      unfold CV.agg at hen
      dsimp only [Nat.sub_zero] at hen
      have HEN := Lib.hid hen
      have HIE := Lib.hid hie
      have HHA := Lib.hid hha
      clear hen hie hha he0 hm1 hm2 hx hxi hlt
      go_wp2_with fail
      refine (HEN.out _ ((Below.refl _ _).alloc (Nat.le_refl _) _)).mono ?_
      rintro e w2 ⟨rfl, hb2⟩
      have hb2' : Below wr.heap.size wr w2 := ((Below.refl _ wr).alloc (Nat.le_refl _) _).trans (hb2.mono (by simp))
      have k2 := HKR.out.below hb2' HKR.out.lt
      have z6 := k2.cell 6
      have z7 := k2.cell 7
      have HB2 := Lib.hid hb2'
      clear hb2 hb2' k2 x0 x1 x2 x3 x4 x5 x6 x7 c0 c1 c2
      go_wp2_with fail
      refine (HIE.out _).mono ?_
      rintro e w3 ⟨rfl, rfl⟩
      go_wp2_with fail
      refine (HHA.out _ HB2.out).mono ?_
      rintro e w3 ⟨rfl, hb3⟩
      have HB3 := Lib.hid (HBR.out.trans ((HB2.out.trans (hb3.mono HB2.out.size)).mono HBR.out.size))
      clear hb3
      go_wp2_with fail
      refine (HMY.out _).mono ?_
      rintro e w4 ⟨rfl, rfl⟩
      go_wp2_with fail
      go_roundw
      case rel => exact ⟨k + 1, by have := HLT.out; omega, by go_num, HB3.out⟩
      case measure => simp [intOf]; have := HLT.out; omega
    · have d9 : decide ((k : Int) < (pn : Int)) = false := decide_eq_false (by omega)
      have d9b : decide (k < pn) = false := decide_eq_false hlt
      have ar := HA.out.below HBR.out HA.out.lt
      have z0 := ar.cell 0
      have zf := ar.frozen 0
      have HAR := Lib.hid ar
      have hb8 : Blk (wr.alloc (.cells st.toArray 82)) wr.heap.size 82 st.toArray := Blk.new wr 82 _
      rw [HST.out] at hb8
      unfold stc at hb8
      dsimp only at hb8
      have HB8 := Lib.hid hb8
      clear ar hlt hb8
      go_wp2_with (at_builtin; go_must (refine wpList_appS rfl (.tmp 33) (.tmp 35) rfl rfl wr.heap.size 1 [_, _, _, _, _, _, _, _] rfl (by simp [Value.oneCell']) rfl HB8.out ?_); intro q cap w5 hq1 hq2 hq3 hq4; have a5 := (HAR.out.alloc _).below hq4 (by have := HAR.out.lt; simp; omega); have k5 := (HKR.out.alloc _).below hq4 (by have := HKR.out.lt; simp; omega); have z5 := a5.cell 0; have zf5 := a5.frozen 0; have HA5 := Lib.hid a5; have HK5 := Lib.hid k5; have HQ1 := Lib.hid hq1; have HQ2 := Lib.hid hq2; have HQ3 := Lib.hid hq3; have HQ4 := Lib.hid (((Below.refl wr.heap.size wr).alloc (Nat.le_refl _) _).trans (hq4.mono (by simp))); clear hq1 hq2 hq3 hq4 a5 k5 x0 x1 x2 x3 x4 x5 x6 x7 z0 zf)
      obtain ⟨F, hF⟩ : ∃ F, F = w5.setCell ⟨a, 0, none⟩ (.slice (some ⟨q, 0, none⟩) 1 cap) := ⟨_, rfl⟩
      rw [← hF]
      have hal := HAL.out
      have hne1 : w.heap.size ≠ a := by omega
      have hqa : q ≠ a := by have h1 := HAR.out.lt; have h3 := HQ3.out; simp at h3; omega
      have aF : Blk F a 99 #[.slice (some ⟨q, 0, none⟩) 1 cap] := by rw [hF]; exact HA5.out.set_ 0 _
      have kF := HK5.out.far (p := ⟨a, 0, none⟩) hne1 (.slice (some ⟨q, 0, none⟩) 1 cap)
      rw [← hF] at kF
      have qF : ∀ i u, (stc n ⟨pk, ps, px, pA, pn, pc, pl⟩ 1 (.slice none 0 0) (.slice none 0 0))[i]? = some u → F.cell? ⟨q, i, none⟩ = some u := fun i u hu => by
        rw [hF, World.cell?_setCell_other _ _ _ _ (fun e => hqa (by injection e with e1; exact e1.symm))]
        exact HQ1.out i u hu
      have y0 := kF.cell 5
      have y1 := aF.cell 0
      have y2 := qF 5 _ rfl
      have hfF : Fr w5 F (fun b => b = a) := by rw [hF]; exact (Fr.refl w5 (fun b => b = a)).setCell (p := ⟨a, 0, none⟩) (Or.inl rfl) _
      have HAF := Lib.hid aF
      have HQF := Lib.hid qF
      have HFF := Lib.hid (((Fr.of_below (HBW.out.trans ((HBR.out.trans (HQ4.out.mono HBR.out.size)).mono HBW.out.size)) (fun b => b = a))).same hfF)
      have HQL : Hid (q < F.heap.size) := Lib.hid (Nat.lt_of_lt_of_le HQ2.out hfF.size)
      have HWQ : Hid (w.heap.size ≤ q) := Lib.hid (by have h3 := HQ3.out; simp at h3; have := HBW.out.size; have := HBR.out.size; omega)
      have e11 : ((1 : Int) == 1) = true := rfl
      clear hF hal hne1 hqa aF kF qF hfF z5 zf5
      go_quiet ((go_at_call 23; exact Calls.quiet_of_same (HMQ.out _)))
      go_wp2_with fail
      go_end0
      exact ⟨rfl, ⟨q, cap, HAF.out, fun i u hu => HQF.out i u hu, HQL.out, HWQ.out⟩, HFF.out.drewN _⟩
end Go.Proofs.Ytcajidlekfkjlaa
