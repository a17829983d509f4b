/-
  THE DOCUMENT'S DISK: THE WALK OF Write.
-/
import Derived.Test.YtjblcligkgjbjaaWalkU
import Derived.OrdersHeld
namespace Go.Proofs.Ytjblcligkgjbjaa
open Go.RowKit Go.Sort Go.Maps

set_option maxRecDepth 100000 in
theorem run_build76 (a : Int) (A : Option Addr) (n c : Nat) (w : World) : (Instr.build 76 #[(0, .int .i64 a), (1, .slice A n c)]).run Try.prog w = .ok (.agg #[.int .i64 a, .slice A n c]) w := by
  refine run_build w 76 _ _ ?_
  kernel_rfl
set_option maxRecDepth 100000 in
theorem wp_app76 {o : Oper} {a : Act} {w : World} {K : Act → World → Prop} {Q : Exit → Act → World → Prop} (s x : Operand) (ho : o.op = .call { callee := .builtin .append, args := #[s, x], argTypes := #[38, 38] })
    (v y : Value) (hs : a.eval s = v) (hx : a.eval x = y) (v' : Value) (w' : World) (hrun : (Builtin.append_ #[38, 38] o.type #[v, y]).run Try.prog w = .ok v' w') (h : K (a.put o.dst v') w') : o.wp Try.prog a w K Q := by
  unfold Oper.wp execOp
  simp only [ho, resolve, invoke, builtin, Sem.run_bind, Sem.run_pure, Result.andThen_ok, List.map_toArray, List.map_cons, List.map_nil, hs, hx, hrun]
  exact h
set_option maxRecDepth 100000 in
theorem rwrite_out (w : World) (S T : Nat → Prop) (g : Nat) (d : DS) (h : RAt w S T g d) (at_ : Int) (ha : at_ < 0 ∨ (d.kept.length : Int) ≤ at_) (A : Option Addr) (m c : Nat) :
    Calls Try.prog 30 #[ptr (some g), .int .i64 at_, .slice A m c] w fun e w' => e = .returned (.int .i64 2) ∧ w = w' := by
  obtain ⟨vk, vc, h⟩ := h
  have hc0 := h.b.cell 0
  simp only [rcs, List.getElem?_toArray, List.getElem?_cons_zero] at hc0
  obtain ⟨Ak, ck, hvk, _⟩ := h.k.look
  subst hvk
  clear h
  simp only [ptr, Option.map]
  by_cases h0 : at_ < 0
  · have hd : decide (at_ < 0) = true := decide_eq_true h0
    go_enter Try.func30, Try.ntmps30
    go_wp2_with fail
    go_ret
    exact ⟨rfl, rfl⟩
  · have hd : decide (at_ < 0) = false := decide_eq_false h0
    have h1 : at_ ≥ (d.kept.length : Int) := by omega
    have hd2 : decide (at_ ≥ (d.kept.length : Int)) = true := decide_eq_true h1
    have hd3 : decide ((d.kept.length : Int) ≤ at_) = true := decide_eq_true h1
    go_enter Try.func30, Try.ntmps30
    go_wp2_with fail
    go_ret
    exact ⟨rfl, rfl⟩
set_option maxRecDepth 100000 in
theorem rwrite_arg (w : World) (S T : Nat → Prop) (g : Nat) (d : DS) (h : RAt w S T g d) (a : Nat) (ha : a < d.kept.length) (A : Option Addr) (m c : Nat) (hm : m ≠ 512) :
    Calls Try.prog 30 #[ptr (some g), .int .i64 (a : Int), .slice A m c] w fun e w' => e = .returned (.int .i64 1) ∧ w = w' := by
  obtain ⟨vk, vc, h⟩ := h
  have hc0 := h.b.cell 0
  simp only [rcs, List.getElem?_toArray, List.getElem?_cons_zero] at hc0
  obtain ⟨Ak, ck, hvk, _⟩ := h.k.look
  subst hvk
  have hd : decide ((a : Int) < 0) = false := decide_eq_false (by omega)
  have hd2 : decide ((a : Int) ≥ (d.kept.length : Int)) = false := decide_eq_false (by omega)
  have hd4 : decide (d.kept.length ≤ a) = false := decide_eq_false (by omega)
  have h1 : ((m : Int) != 512) = true := by rw [bne_iff_ne]; omega
  have h2 : ((m : Int) == 512) = false := by rw [beq_eq_false_iff_ne]; omega
  clear h
  simp only [ptr, Option.map]
  go_enter Try.func30, Try.ntmps30
  go_wp2_with fail
  go_ret
  exact ⟨rfl, rfl⟩
set_option maxRecDepth 100000 in
theorem rwrite_dark (w : World) (S T : Nat → Prop) (g : Nat) (d : DS) (h : RAt w S T g d) (a : Nat) (ha : a < d.kept.length) (A : Option Addr) (c : Nat) (hm : d.may = false) :
    Calls Try.prog 30 #[ptr (some g), .int .i64 (a : Int), .slice A 512 c] w fun e w' => e = .returned (.int .i64 8) ∧ RAt w' S T g d.next ∧ Fr w w' S := by
  have HO := rcomes_any w S T g d h
  rw [hm] at HO
  obtain ⟨vk, vc, h⟩ := h
  have hc0 := h.b.cell 0
  simp only [rcs, List.getElem?_toArray, List.getElem?_cons_zero] at hc0
  obtain ⟨Ak, ck, hvk, _⟩ := h.k.look
  subst hvk
  have hd : decide ((a : Int) < 0) = false := decide_eq_false (by omega)
  have hd2 : decide ((a : Int) ≥ (d.kept.length : Int)) = false := decide_eq_false (by omega)
  have hd4 : decide (d.kept.length ≤ a) = false := decide_eq_false (by omega)
  have HO := Lib.hid HO
  clear h
  simp only [ptr, Option.map] at HO ⊢
  go_enter Try.func30, Try.ntmps30
  go_wp2_with fail
  with_reducible refine HO.out.mono ?_
  rintro e w1 ⟨rfl, hD, hF⟩
  have HD := Lib.hid hD
  have HF := Lib.hid hF
  clear hD hF HO
  go_wp2_with fail
  go_ret
  exact ⟨rfl, HD.out, HF.out⟩
set_option maxHeartbeats 2000000 in
set_option maxRecDepth 100000 in
theorem rwrite_some (w : World) (S T : Nat → Prop) (g : Nat) (d : DS) (h : RAt w S T g d) (a : Nat) (ha : a < d.kept.length) (hm : d.may = true) (U : Nat → Prop) (A : Option Addr) (c : Nat) (b : List Nat) (hr : RB w U A 512 b)
    (hU : ∀ x, U x → ¬ S x) (hlen : d.cache.length < 1000000) :
    Calls Try.prog 30 #[ptr (some g), .int .i64 (a : Int), .slice A 512 c] w fun e w' => e = .returned (.int .i64 0) ∧ (∃ S' T', RAt w' S' T' g (d.next.write a b) ∧ (∀ q, S' q → S q ∨ w.heap.size ≤ q) ∧ (∀ q, T' q → T q ∨ w.heap.size ≤ q)) ∧ Fr w w' S := by
  have HO := rcomes_any w S T g d h
  rw [hm] at HO
  obtain ⟨vk, vc, h⟩ := h
  have hc0 := h.b.cell 0
  simp only [rcs, List.getElem?_toArray, List.getElem?_cons_zero] at hc0
  obtain ⟨Ak, ck, hvk, _⟩ := h.k.look
  subst hvk
  have hd : decide ((a : Int) < 0) = false := decide_eq_false (by omega)
  have hd2 : decide ((a : Int) ≥ (d.kept.length : Int)) = false := decide_eq_false (by omega)
  have hd4 : decide (d.kept.length ≤ a) = false := decide_eq_false (by omega)
  clear h
  have HA : Hid (a < d.next.kept.length) := by rw [next_kept]; exact ha
  have HLn : Hid (d.next.cache.length < 1000000) := by rw [next_cache]; exact hlen
  have HSec : Hid (Sec b) := ⟨hr.1, hr.2.1⟩
  have HR := Lib.hid hr
  clear hr
  generalize d.next = x at HO HA HLn ⊢
  have HO := Lib.hid HO
  simp only [ptr, Option.map] at HO ⊢
  go_enter Try.func30, Try.ntmps30
  go_wp2_with fail
  with_reducible refine HO.out.mono ?_
  rintro e w1 ⟨rfl, hD, hF⟩
  clear HO hc0 ha hlen hm
  obtain ⟨vk, vc, hD⟩ := hD
  have hc5 := hD.b.cell 5
  have hf5 := hD.b.frozen 5
  simp only [rcs, List.getElem?_toArray, List.getElem?_cons_zero, List.getElem?_cons_succ] at hc5
  have hr2 : IntKind.i64.wrap (x.wr + 1) = up x.wr := rfl
  obtain ⟨r', hr'⟩ : ∃ r', r' = up x.wr := ⟨_, rfl⟩
  rw [← hr'] at hr2
  obtain ⟨hE, hG⟩ := hD.field (d' := { x with wr := up x.wr }) 5 (.int .i64 r') rfl rfl ⟨hD.ok.pos, hD.ok.few, hD.ok.sec, hD.ok.cac, hD.ok.tr1, hD.ok.tr2, hD.ok.drk⟩ (by simp [rcs, hr'])
  obtain ⟨W, hW⟩ : ∃ W, W = (w1.setCell ⟨g, 5, none⟩ (.int .i64 r')).drew := ⟨_, rfl⟩
  have hE2 : RD W S T g { x with wr := up x.wr } vk vc := by rw [hW]; exact hE.keep (U := No) (Fr.refl _ No).drew (fun _ _ hn => hn) fun _ _ hn => hn
  have hG2 : Fr w W S := by rw [hW]; exact (hF.same hG).drew
  obtain ⟨Ac, nc, cc, hvc⟩ : ∃ Ac nc cc, vc = .slice Ac nc cc := by obtain ⟨A1, c1, e, _⟩ := hE2.c.look; exact ⟨_, _, _, e⟩
  subst hvc
  have hc1 := hE2.b.cell 1
  simp only [rcs, List.getElem?_toArray, List.getElem?_cons_zero, List.getElem?_cons_succ] at hc1
  have HE := Lib.hid hE2
  have HG := Lib.hid hG2
  have HRW : Hid (RB W U A 512 b) := HR.out.keep hG2 hU
  have hTR : Hid True := trivial
  clear hD hE hF hG hE2 hG2 hr'
  replace hW := hW.symm
  go_upto_region 8 with fail
  refine wp_region_held_drew (S := fun _ => True) (by kernel_rfl) trivial (fun hS => ?_)
  rw [hW]
  refine wpAnyH_take (i := 0) (v := ?_) rfl (by kernel_rfl) (by kernel_rfl) (by kernel_rfl) (fun _ _ _ h => h) (Or.inl ⟨by rfl, ?_⟩) hS ?_
  rotate_left
  · (intro wq hSw; clear hSw; go_simp; try with_reducible rfl)
  refine wpAnyH_take (i := 1) (v := ?_) rfl (by kernel_rfl) (by kernel_rfl) (by kernel_rfl) (fun _ _ _ h => h) (Or.inl ⟨by rfl, ?_⟩) hS ?_
  rotate_left
  · (intro wq hSw; clear hSw; go_simp; try with_reducible rfl)
  simp only [List.getElem_toArray, List.getElem_cons_succ, List.getElem_cons_zero, Act.put, List.setIfInBounds_toArray, List.set_cons_succ, List.set_cons_zero]
  refine wpAnyH_take (i := 2) (v := ?_) rfl (by kernel_rfl) (by kernel_rfl) (by kernel_rfl) (fun _ _ _ h => h) (Or.inl ⟨by rfl, ?_⟩) hS ?_
  rotate_left
  · (intro wq hSw; clear hSw; go_simp; try with_reducible rfl)
  simp only [List.getElem_toArray, List.getElem_cons_succ, List.getElem_cons_zero, Act.put, List.setIfInBounds_toArray, List.set_cons_succ, List.set_cons_zero]
  refine wpAnyH_take (i := 3) (v := ?_) rfl (by kernel_rfl) (by kernel_rfl) (by kernel_rfl) (fun _ _ _ h => h) (Or.inl ⟨by rfl, ?_⟩) hS ?_
  rotate_left
  · (intro wq hSw; clear hSw; go_simp; try with_reducible rfl)
  simp only [List.getElem_toArray, List.getElem_cons_succ, List.getElem_cons_zero, Act.put, List.setIfInBounds_toArray, List.set_cons_succ, List.set_cons_zero]
  refine wpAnyH_take (i := 5) (v := ?_) rfl (by kernel_rfl) (by kernel_rfl) (by kernel_rfl) (fun _ _ _ h => h) (Or.inl ⟨by rfl, ?_⟩) hS ?_
  rotate_left
  · (intro wq hSw; clear hSw; go_simp; try with_reducible rfl)
  simp only [List.getElem_toArray, List.getElem_cons_succ, List.getElem_cons_zero, Act.put, List.setIfInBounds_toArray, List.set_cons_succ, List.set_cons_zero]
  refine wpAnyH_take (i := 6) (v := ?_) rfl (by kernel_rfl) (by kernel_rfl) (by kernel_rfl) (fun _ _ _ h => h) (Or.inl ⟨by rfl, ?_⟩) hS ?_
  rotate_left
  · (intro wq hSw; clear hSw; go_simp; try with_reducible rfl)
  simp only [List.getElem_toArray, List.getElem_cons_succ, List.getElem_cons_zero, Act.put, List.setIfInBounds_toArray, List.set_cons_succ, List.set_cons_zero]
  refine wpAnyH_ready (rs := [4, 7]) (by kernel_rfl) (by simp) ?_
  refine AllReadyH.cons rfl (fun K hK => ?_) (AllReadyH.cons rfl (fun K hK => ?_) AllReadyH.nil)
  · go_simp
    refine hK.out _ _ trivial (fun hS => ?_)
    clear hK K
    refine wpAnyH_ready (rs := [7]) (by kernel_rfl) (by simp) ?_
    refine AllReadyH.cons rfl (fun K hK => ?_) AllReadyH.nil
    go_simp
    refine (copy_any W U A 512 c b HRW.out (by omega)).mono ?_
    rintro e y ⟨vy, rfl, hnw, hf⟩
    obtain ⟨Ay, cy, rfl, _, _, hry⟩ := Ow.reads hnw
    have hry2 : RB y (fun q => W.heap.size ≤ q) Ay 512 b := by rw [← HSec.out.1]; exact hry
    obtain ⟨v', w4, hap, ⟨A', n', c', rfl⟩, hb4, hkg, hfr⟩ := HE.out.pushed hf a HA.out cy hry2 HSec.out HLn.out 38
    rw [HSec.out.1]
    have hby := HE.out.b.keep hf fun hn => hn
    have y1 := hby.cell 1
    have y1b := (hby.alloc (.cells #[.int .i64 (a : Int), .slice Ay 512 cy] 76)).cell 1
    have z4 := hb4.cell 1
    have z4f := hb4.frozen 1
    simp only [rcs, List.getElem?_toArray, List.getElem?_cons_zero, List.getElem?_cons_succ] at y1 y1b z4
    have HAP := Lib.hid hap
    have HKG := Lib.hid hkg
    have HFR := Lib.hid hfr
    have hbd := fun wq : World => run_build76 (a : Int) Ay 512 cy wq
    have hbs := run_bs76 (a : Int) Ay 512 cy y
    clear hap hkg hfr hb4 hby hnw hry hry2 hf
    refine hK.out _ _ trivial (fun hS => ?_)
    clear hK K
    refine wpAnyH_take (i := 8) (v := ?_) rfl (by kernel_rfl) (by kernel_rfl) (by kernel_rfl) (fun _ _ _ h => h) (Or.inl ⟨by rfl, ?_⟩) hS ?_
    rotate_left
    · (intro wq hSw; clear hSw; go_simp; try with_reducible rfl)
    simp only [List.getElem_toArray, List.getElem_cons_succ, List.getElem_cons_zero, Act.put, List.setIfInBounds_toArray, List.set_cons_succ, List.set_cons_zero]
    refine wpAnyH_ready (rs := [9]) (by kernel_rfl) (by simp) ?_
    refine AllReadyH.cons rfl (fun K hK => ?_) AllReadyH.nil
    go_simp
    refine hK.out _ _ trivial (fun hS => ?_)
    clear hK K
    refine wpAnyH_ready (rs := [10]) (by kernel_rfl) (by simp) ?_
    refine AllReadyH.cons rfl (fun K hK => ?_) AllReadyH.nil
    simp only [List.getElem_toArray, List.getElem_cons_succ, List.getElem_cons_zero]
    rw [if_pos (by rfl)]
    refine wp_app76 (.tmp 38) (.tmp 43) rfl (.slice Ac nc cc) (.slice (some ⟨y.heap.size, 0, none⟩) 1 1) rfl rfl (.slice A' n' c') w4 HAP.out ?_
    refine hK.out _ _ trivial (fun hS => ?_)
    clear hK K
    go_frame
    refine wpAnyH_take (i := 11) (v := ?_) rfl (by kernel_rfl) (by kernel_rfl) (by kernel_rfl) (fun _ _ _ h => h) (Or.inl ⟨by rfl, ?_⟩) hS ?_
    rotate_left
    · (intro wq hSw; clear hSw; go_simp; try with_reducible rfl)
    simp only [List.getElem_toArray, List.getElem_cons_succ, List.getElem_cons_zero, Act.put, List.setIfInBounds_toArray, List.set_cons_succ, List.set_cons_zero]
    refine wpAnyH_take (i := 12) (v := ?_) rfl (by kernel_rfl) (by kernel_rfl) (by kernel_rfl) (fun _ _ _ h => h) (Or.inl ⟨by rfl, ?_⟩) hS ?_
    rotate_left
    · (intro wq hSw; clear hSw; go_simp; try with_reducible rfl)
    simp only [List.getElem_toArray, List.getElem_cons_succ, List.getElem_cons_zero, Act.put, List.setIfInBounds_toArray, List.set_cons_succ, List.set_cons_zero]
    refine wpAnyH_ready (rs := [13]) (by kernel_rfl) (by simp) ?_
    refine AllReadyH.cons rfl (fun K hK => ?_) AllReadyH.nil
    go_simp
    refine hK.out _ _ trivial (fun hS => ?_)
    clear hK K
    refine wpAnyH_done (by kernel_rfl) ?_ _
    clear hS
    go_wp2_with fail
    go_ret
    obtain ⟨S', T', hkr, h1, h2⟩ := HKG.out
    have hsz := HG.out.size
    exact ⟨rfl, ⟨S', T', ⟨_, _, hkr⟩, fun q hq => (h1 q hq).imp id fun h => Nat.le_trans hsz h, fun q hq => (h2 q hq).imp id fun h => Nat.le_trans hsz h⟩, HG.out.same HFR.out⟩
  · go_simp
    refine (copy_any W U A 512 c b HRW.out (by omega)).mono ?_
    rintro e y ⟨vy, rfl, hnw, hf⟩
    obtain ⟨Ay, cy, rfl, _, _, hry⟩ := Ow.reads hnw
    have hry2 : RB y (fun q => W.heap.size ≤ q) Ay 512 b := by rw [← HSec.out.1]; exact hry
    obtain ⟨v', w4, hap, ⟨A', n', c', rfl⟩, hb4, hkg, hfr⟩ := HE.out.pushed hf a HA.out cy hry2 HSec.out HLn.out 38
    rw [HSec.out.1]
    have hby := HE.out.b.keep hf fun hn => hn
    have y1 := hby.cell 1
    have y1b := (hby.alloc (.cells #[.int .i64 (a : Int), .slice Ay 512 cy] 76)).cell 1
    have z4 := hb4.cell 1
    have z4f := hb4.frozen 1
    simp only [rcs, List.getElem?_toArray, List.getElem?_cons_zero, List.getElem?_cons_succ] at y1 y1b z4
    have HAP := Lib.hid hap
    have HKG := Lib.hid hkg
    have HFR := Lib.hid hfr
    have hbd := fun wq : World => run_build76 (a : Int) Ay 512 cy wq
    have hbs := run_bs76 (a : Int) Ay 512 cy y
    clear hap hkg hfr hb4 hby hnw hry hry2 hf
    refine hK.out _ _ trivial (fun hS => ?_)
    clear hK K
    refine wpAnyH_take (i := 8) (v := ?_) rfl (by kernel_rfl) (by kernel_rfl) (by kernel_rfl) (fun _ _ _ h => h) (Or.inl ⟨by rfl, ?_⟩) hS ?_
    rotate_left
    · (intro wq hSw; clear hSw; go_simp; try with_reducible rfl)
    simp only [List.getElem_toArray, List.getElem_cons_succ, List.getElem_cons_zero, Act.put, List.setIfInBounds_toArray, List.set_cons_succ, List.set_cons_zero]
    refine wpAnyH_ready (rs := [4, 9]) (by kernel_rfl) (by simp) ?_
    refine AllReadyH.cons rfl (fun K hK => ?_) (AllReadyH.cons rfl (fun K hK => ?_) AllReadyH.nil)
    · go_simp
      refine hK.out _ _ trivial (fun hS => ?_)
      clear hK K
      refine wpAnyH_ready (rs := [9]) (by kernel_rfl) (by simp) ?_
      refine AllReadyH.cons rfl (fun K hK => ?_) AllReadyH.nil
      go_simp
      refine hK.out _ _ trivial (fun hS => ?_)
      clear hK K
      refine wpAnyH_ready (rs := [10]) (by kernel_rfl) (by simp) ?_
      refine AllReadyH.cons rfl (fun K hK => ?_) AllReadyH.nil
      simp only [List.getElem_toArray, List.getElem_cons_succ, List.getElem_cons_zero]
      rw [if_pos (by rfl)]
      refine wp_app76 (.tmp 38) (.tmp 43) rfl (.slice Ac nc cc) (.slice (some ⟨y.heap.size, 0, none⟩) 1 1) rfl rfl (.slice A' n' c') w4 HAP.out ?_
      refine hK.out _ _ trivial (fun hS => ?_)
      clear hK K
      go_frame
      refine wpAnyH_take (i := 11) (v := ?_) rfl (by kernel_rfl) (by kernel_rfl) (by kernel_rfl) (fun _ _ _ h => h) (Or.inl ⟨by rfl, ?_⟩) hS ?_
      rotate_left
      · (intro wq hSw; clear hSw; go_simp; try with_reducible rfl)
      simp only [List.getElem_toArray, List.getElem_cons_succ, List.getElem_cons_zero, Act.put, List.setIfInBounds_toArray, List.set_cons_succ, List.set_cons_zero]
      refine wpAnyH_take (i := 12) (v := ?_) rfl (by kernel_rfl) (by kernel_rfl) (by kernel_rfl) (fun _ _ _ h => h) (Or.inl ⟨by rfl, ?_⟩) hS ?_
      rotate_left
      · (intro wq hSw; clear hSw; go_simp; try with_reducible rfl)
      simp only [List.getElem_toArray, List.getElem_cons_succ, List.getElem_cons_zero, Act.put, List.setIfInBounds_toArray, List.set_cons_succ, List.set_cons_zero]
      refine wpAnyH_ready (rs := [13]) (by kernel_rfl) (by simp) ?_
      refine AllReadyH.cons rfl (fun K hK => ?_) AllReadyH.nil
      go_simp
      refine hK.out _ _ trivial (fun hS => ?_)
      clear hK K
      refine wpAnyH_done (by kernel_rfl) ?_ _
      clear hS
      go_wp2_with fail
      go_ret
      obtain ⟨S', T', hkr, h1, h2⟩ := HKG.out
      have hsz := HG.out.size
      exact ⟨rfl, ⟨S', T', ⟨_, _, hkr⟩, fun q hq => (h1 q hq).imp id fun h => Nat.le_trans hsz h, fun q hq => (h2 q hq).imp id fun h => Nat.le_trans hsz h⟩, HG.out.same HFR.out⟩
    · go_simp
      refine hK.out _ _ trivial (fun hS => ?_)
      clear hK K
      refine wpAnyH_ready (rs := [4]) (by kernel_rfl) (by simp) ?_
      refine AllReadyH.cons rfl (fun K hK => ?_) AllReadyH.nil
      go_simp
      refine hK.out _ _ trivial (fun hS => ?_)
      clear hK K
      refine wpAnyH_ready (rs := [10]) (by kernel_rfl) (by simp) ?_
      refine AllReadyH.cons rfl (fun K hK => ?_) AllReadyH.nil
      simp only [List.getElem_toArray, List.getElem_cons_succ, List.getElem_cons_zero]
      rw [if_pos (by rfl)]
      refine wp_app76 (.tmp 38) (.tmp 43) rfl (.slice Ac nc cc) (.slice (some ⟨y.heap.size, 0, none⟩) 1 1) rfl rfl (.slice A' n' c') w4 HAP.out ?_
      refine hK.out _ _ trivial (fun hS => ?_)
      clear hK K
      go_frame
      refine wpAnyH_take (i := 11) (v := ?_) rfl (by kernel_rfl) (by kernel_rfl) (by kernel_rfl) (fun _ _ _ h => h) (Or.inl ⟨by rfl, ?_⟩) hS ?_
      rotate_left
      · (intro wq hSw; clear hSw; go_simp; try with_reducible rfl)
      simp only [List.getElem_toArray, List.getElem_cons_succ, List.getElem_cons_zero, Act.put, List.setIfInBounds_toArray, List.set_cons_succ, List.set_cons_zero]
      refine wpAnyH_take (i := 12) (v := ?_) rfl (by kernel_rfl) (by kernel_rfl) (by kernel_rfl) (fun _ _ _ h => h) (Or.inl ⟨by rfl, ?_⟩) hS ?_
      rotate_left
      · (intro wq hSw; clear hSw; go_simp; try with_reducible rfl)
      simp only [List.getElem_toArray, List.getElem_cons_succ, List.getElem_cons_zero, Act.put, List.setIfInBounds_toArray, List.set_cons_succ, List.set_cons_zero]
      refine wpAnyH_ready (rs := [13]) (by kernel_rfl) (by simp) ?_
      refine AllReadyH.cons rfl (fun K hK => ?_) AllReadyH.nil
      go_simp
      refine hK.out _ _ trivial (fun hS => ?_)
      clear hK K
      refine wpAnyH_done (by kernel_rfl) ?_ _
      clear hS
      go_wp2_with fail
      go_ret
      obtain ⟨S', T', hkr, h1, h2⟩ := HKG.out
      have hsz := HG.out.size
      exact ⟨rfl, ⟨S', T', ⟨_, _, hkr⟩, fun q hq => (h1 q hq).imp id fun h => Nat.le_trans hsz h, fun q hq => (h2 q hq).imp id fun h => Nat.le_trans hsz h⟩, HG.out.same HFR.out⟩
end Go.Proofs.Ytjblcligkgjbjaa
