/-
  THE WALK OF alive.
-/
import Derived.Test.YtjblcligkgjbjaaWalkJ
import Derived.Deep.RegionWith
import Derived.Lib.ConvBytes
namespace Go.Proofs.Ytjblcligkgjbjaa
open Go.RowKit Go.Sort Go.Maps

set_option maxRecDepth 100000 in
theorem run_conv (T : Nat → Prop) (A : Option Addr) (n c : Nat) (l : List Nat) (w : World) (h : RB w T A n l) :
    (convert 33 9 (.slice A n c)).run Try.prog w = .ok (.string (bs l)) w := by
  obtain ⟨hl, hx, h3⟩ := h
  rw [run_convert_bytes_string w 33 9 5 A n c Try.underlying33 Try.underlying5 Try.underlying9]
  rcases A with _ | ad
  · have hn : n = 0 := by
      rcases Nat.eq_zero_or_pos n with h0 | h0
      · exact h0
      · obtain ⟨_, e, _⟩ := h3 h0
        cases e
    subst hn
    have : l = [] := List.eq_nil_of_length_eq_zero hl
    subst this
    simp [Conv.bytesToString, bs]
    rfl
  · have hload : (loadCells ad n).run Try.prog w = .ok ((l.map fun x : Nat => (x : Int)).map (Value.int .u8)).toArray w := by
      have := run_loadCells_list (P := Try.prog) w ad ((l.map fun x : Nat => (x : Int)).map (Value.int .u8)) (fun j v hj => by
        have hjl : j < l.length := by
          rcases Nat.lt_or_ge j l.length with h | h
          · exact h
          · simp [List.getElem?_eq_none h] at hj
        obtain ⟨ad', e, _, _, hc⟩ := h3 (by omega)
        cases e
        rw [hc j (by omega)]
        simp [List.getElem?_eq_getElem hjl] at hj
        subst hj
        simp [hjl])
      simpa [hl] using this
    rw [run_bytesToString w ad n c _ hload, foldl_push_bytes]
    simp [bs, ByteArray.empty, ByteArray.emptyWithCapacity]
    rfl
set_option maxRecDepth 100000 in
theorem run_eqs (a b : ByteArray) : binOp .eql 9 (.string a) (.string b) = pure (.bool (seq a b)) := binOp_string_eql 9 a b
set_option maxRecDepth 100000 in
theorem DAt.tight {w : World} {S : Nat → Prop} {g : Nat} {d : DS} (h : DAt w S g d) : DAt w (fun b => S b ∧ b < w.heap.size) g d := h.mono fun _ hb hS => ⟨hS, hb⟩
def fl (x : Nat) : List Nat := List.replicate 512 x
set_option maxRecDepth 100000 in
theorem fl_len (x : Nat) : (fl x).length = 512 := List.length_replicate
set_option maxRecDepth 100000 in
theorem fl_sec {x : Nat} (h : x < 256) : Sec (fl x) := ⟨fl_len x, fun y hy => by rw [fl] at hy; rw [List.eq_of_mem_replicate hy]; exact h⟩
set_option maxRecDepth 100000 in
theorem full_fl (x : Nat) (hx : x < 256) (w : World) : Calls Try.prog 22 #[.int .u8 (x : Int)] w fun e w' => ∃ A c, e = .returned (.slice A 512 c) ∧ RB w' (fun b => w.heap.size ≤ b) A 512 (fl x) ∧ Fr w w' No := by
  refine (full_any x hx w).mono ?_
  rintro e w' ⟨v, rfl, hn, hf⟩
  obtain ⟨A, c, hv, _, _, hr⟩ := Ow.reads hn
  rw [List.length_replicate] at hv hr
  exact ⟨A, c, by rw [hv], hr, hf⟩
def D0 : DS := DS.new 2
def D1 : DS := D0.write 0 (fl 1)
def D2 : DS := D1.write 0 (fl 2)
def D3 : DS := D2.write 1 (fl 3)
def D4 : DS := D3.read
def D5 : DS := D4.cut [true, false, true]
def D6 : DS := D5.read
set_option maxRecDepth 100000 in
theorem D3_seen : D3.seen 0 = fl 2 := rfl
set_option maxRecDepth 100000 in
theorem D5_seen : D5.seen 0 = fl 1 := rfl
/-- what the last question is asked of -/
structure AF (w : World) (S T6 T9 : Nat → Prop) (g : Nat) (A6 A9 : Option Addr) : Prop where
  d : DAt w S g D6
  r6 : RB w T6 A6 512 (fl 2)
  r9 : RB w T9 A9 512 (fl 1)
set_option maxRecDepth 100000 in
theorem AF.fr {w w' : World} {S T6 T9 : Nat → Prop} {g : Nat} {A6 A9 : Option Addr} (h : AF w S T6 T9 g A6 A9) (hf : Fr w w' No) : AF w' S T6 T9 g A6 A9 :=
  ⟨h.d.keep hf fun _ _ hn => hn, h.r6.keep hf fun _ _ hn => hn, h.r9.keep hf fun _ _ hn => hn⟩
theorem upge {S : Nat → Prop} {B : Nat} {w : World} (h : ∀ b, S b → B ≤ b) (hB : B ≤ w.heap.size) : ∀ b, Up S w b → B ≤ b := fun b hb => hb.elim (h b) fun hb => Nat.le_trans hB hb
attribute [local go_sem high] run_eqs
/-- what holds all along the last question -/
def AS (w0 : World) (S T6 T9 : Nat → Prop) (g : Nat) (A6 A9 : Option Addr) (w : World) : Prop := AF w S T6 T9 g A6 A9 ∧ Fr w0 w No
theorem AS.fr {w0 w w' : World} {S T6 T9 : Nat → Prop} {g : Nat} {A6 A9 : Option Addr} (h : AS w0 S T6 T9 g A6 A9 w) (hf : Fr w w' No) : AS w0 S T6 T9 g A6 A9 w' := ⟨h.1.fr hf, h.2.same hf⟩
set_option maxHeartbeats 20000000 in
set_option maxRecDepth 100000 in
theorem alive_any (w : World) : Calls Try.prog 10 #[] w fun e w' => e = .returned (.bool true) ∧ Below w.heap.size w w' := by
  go_enter Try.func10, Try.ntmps10
  go_wp2_with fail
  refine (new_any 2 (by omega) (by omega) _).mono ?_
  rintro e w1 ⟨g, rfl, hd0, hb1⟩
  have hF1 : Fr w w1 No := Fr.of_below hb1 No
  have hd1 := hd0.tight
  have hs1 := hF1.size
  have HS : Hid (Calls Try.prog 11 #[ptr (some g)] w1 fun e w' => e = .returned (.int .i64 2) ∧ w1 = w') := Lib.hid (sectors_any w1 _ g _ hd1)
  have HD := Lib.hid hd1
  have HF := Lib.hid hF1
  clear hd0 hd1 hb1 hF1
  simp only [ptr, Option.map] at HS ⊢
  go_wp2_with fail
  refine HS.out.mono ?_
  rintro e w' ⟨rfl, rfl⟩
  clear HS
  go_wp2_with fail
  refine (full_fl 1 (by omega) _).mono ?_
  rintro e f1 ⟨A1, c1, rfl, hr1, hf1⟩
  have HR1 := Lib.hid hr1
  have HF1 := Lib.hid hf1
  have hz1 := hf1.size
  clear hr1 hf1
  have HG1 := Lib.hid (HD.out.keep HF1.out fun _ _ hn => hn)
  go_wp2_with fail
  refine (write_some f1 _ g D0 HG1.out 0 (by decide) rfl _ A1 c1 (fl 1) HR1.out (fun b h1 h2 => by have := h2.2; omega) (by decide)).mono ?_
  rintro e v1 ⟨rfl, hd, hf⟩
  have hs1w := hf.size
  have HD1 : Hid (DAt v1 (fun b => Up _ f1 b ∧ b < v1.heap.size) g D1) := Lib.hid (DAt.tight hd)
  have HE1 := Lib.hid hf
  have G1 : Hid (∀ b, Up (fun b => w.heap.size ≤ b ∧ b < w1.heap.size) f1 b ∧ b < v1.heap.size → w.heap.size ≤ b) := fun b h => upge (fun _ h => h.1) (by omega) b h.1
  clear hd hf
  go_wp2_with fail
  refine (full_fl 2 (by omega) _).mono ?_
  rintro e f2 ⟨A2, c2, rfl, hr2, hf2⟩
  have HR2 := Lib.hid hr2
  have HF2 := Lib.hid hf2
  have hz2 := hf2.size
  clear hr2 hf2
  have HG2 := Lib.hid (HD1.out.keep HF2.out fun _ _ hn => hn)
  go_wp2_with fail
  refine (write_some f2 _ g D1 HG2.out 0 (by decide) rfl _ A2 c2 (fl 2) HR2.out (fun b h1 h2 => by have := h2.2; omega) (by decide)).mono ?_
  rintro e v2 ⟨rfl, hd, hf⟩
  have hs2w := hf.size
  have HD2 : Hid (DAt v2 (fun b => Up _ f2 b ∧ b < v2.heap.size) g D2) := Lib.hid (DAt.tight hd)
  have HE2 := Lib.hid hf
  have G2 := Lib.hid (show ∀ b, _ → w.heap.size ≤ b from fun b (h : Up _ f2 b ∧ b < v2.heap.size) => upge G1.out (by omega) b h.1)
  clear hd hf
  go_wp2_with fail
  refine (full_fl 3 (by omega) _).mono ?_
  rintro e f3 ⟨A3, c3, rfl, hr3, hf3⟩
  have HR3 := Lib.hid hr3
  have HF3 := Lib.hid hf3
  have hz3 := hf3.size
  clear hr3 hf3
  have HG3 := Lib.hid (HD2.out.keep HF3.out fun _ _ hn => hn)
  go_wp2_with fail
  refine (write_some f3 _ g D2 HG3.out 1 (by decide) rfl _ A3 c3 (fl 3) HR3.out (fun b h1 h2 => by have := h2.2; omega) (by decide)).mono ?_
  rintro e v3 ⟨rfl, hd, hf⟩
  have hs3w := hf.size
  have HD3 : Hid (DAt v3 (fun b => Up _ f3 b ∧ b < v3.heap.size) g D3) := Lib.hid (DAt.tight hd)
  have HE3 := Lib.hid hf
  have G3 := Lib.hid (show ∀ b, _ → w.heap.size ≤ b from fun b (h : Up _ f3 b ∧ b < v3.heap.size) => upge G2.out (by omega) b h.1)
  clear hd hf
  go_wp2_with fail
  refine (read_some v3 _ g D3 HD3.out 0 (by decide) rfl).mono ?_
  rintro e r1 ⟨k6, rfl, hk6, hb6, hd, hf⟩
  have hs4 := hf.size
  have HD4 : Hid (DAt r1 _ g D4) := Lib.hid hd
  have HE4 := Lib.hid hf
  have HR6 := Lib.hid (RB.of_any (S := fun b => b = k6) hb6 rfl (fl_sec (show 2 < 256 by omega)).2 (fl_len 2))
  have hk6b := hb6.lt
  have HP : Hid (Calls Try.prog 15 #[ptr (some g)] r1 fun e w' => e = .returned (.int .i64 3) ∧ r1 = w') := Lib.hid (pending_any r1 _ g D4 hd)
  clear hd hf hb6
  simp only [ptr, Option.map] at HP
  go_wp2_with fail
  refine HP.out.mono ?_
  rintro e w' ⟨rfl, rfl⟩
  clear HP
  obtain ⟨rc, hrc⟩ : ∃ rc, rc = r1.alloc (.cells #[.bool true, .bool false, .bool true] 4) := ⟨_, rfl⟩
  have HK : Hid (KB rc (fun b => b = r1.heap.size) (some ⟨r1.heap.size, 0, none⟩) 3 [true, false, true]) := by
    refine ⟨rfl, fun _ => ⟨_, rfl, by rw [hrc]; simp, rfl, fun j hj => ?_⟩⟩
    rw [hrc, add_head, (Blk.new r1 4 _).cell]
    match j, hj with
    | 0, _ => rfl
    | 1, _ => rfl
    | 2, _ => rfl
  have hFc : Fr r1 rc No := by rw [hrc]; exact (Fr.refl _ _).alloc _
  have HDc := Lib.hid (HD4.out.keep hFc fun _ _ hn => hn)
  have HRc := Lib.hid (HR6.out.keep hFc fun _ _ hn => hn)
  have HFc := Lib.hid hFc
  have hsc := hFc.size
  clear hFc
  replace hrc := hrc.symm
  go_wp2_with fail
  refine (cut_any rc _ g D4 HDc.out _ (some ⟨r1.heap.size, 0, none⟩) 3 3 [true, false, true] HK.out (fun b h1 h2 => by have := h2.2; omega) (by decide) (by omega)).mono ?_
  rintro e q1 ⟨rfl, hd, hf⟩
  have hs5 := hf.size
  have HD5 : Hid (DAt q1 _ g D5) := Lib.hid hd
  have HE5 := Lib.hid hf
  have HRq := Lib.hid (HRc.out.keep hf fun b h1 h2 => by have := h2.2; omega)
  clear hd hf
  go_wp2_with fail
  refine (read_some q1 _ g D5 HD5.out 0 (by decide) rfl).mono ?_
  rintro e q2 ⟨k9, rfl, hk9, hb9, hd, hf⟩
  obtain ⟨SS, hSS⟩ : ∃ SS, DAt q2 SS g D6 := ⟨_, hd⟩
  have HAF : Hid (AF q2 SS (fun b => b = k6) (fun b => b = k9) g (some ⟨k6, 0, none⟩) (some ⟨k9, 0, none⟩)) :=
    ⟨hSS, HRq.out.keep hf fun b h1 h2 => by have := h2.2; omega, RB.of_any (S := fun b => b = k9) hb9 rfl (fl_sec (show 1 < 256 by omega)).2 (fl_len 1)⟩
  have HE6 := Lib.hid hf
  clear hd hf hb9 hSS
  go_wp2_with fail
  have B1 : Fr w v1 No := (HF.out.same HF1.out).trans HE1.out fun b h => Or.inr h.1
  have B2 : Fr w v2 No := (B1.same HF2.out).trans HE2.out fun b h => Or.inr (G1.out b h)
  have B3 : Fr w v3 No := (B2.same HF3.out).trans HE3.out fun b h => Or.inr (G2.out b h)
  have B4 : Fr w r1 No := B3.trans HE4.out fun b h => Or.inr (G3.out b h)
  have B5 : Fr w q1 No := (B4.same HFc.out).trans HE5.out fun b h => Or.inr (G3.out b h)
  have B6 : Fr w q2 No := B5.trans HE6.out fun b h => Or.inr (G3.out b h)
  have HI : AS w SS (fun b => b = k6) (fun b => b = k9) g (some ⟨k6, 0, none⟩) (some ⟨k9, 0, none⟩) q2.drew := ⟨HAF.out.fr (Fr.refl q2 No).drew, B6.drew⟩
  have hse2 : seq (bs (fl 2)) (bs (fl 2)) = true := seq_refl _
  have hse1 : seq (bs (fl 1)) (bs (fl 1)) = true := seq_refl _
  clear B1 B2 B3 B4 B5 B6 HF HF1 HE1 HF2 HE2 HF3 HE3 HE4 HE5 HE6 HFc HAF G1 G2 G3 HR1 HR2 HR3 HD HD1 HD2 HD3 HD4 HD5 HDc HG1 HG2 HG3 HK HR6 HRc HRq hrc hs1 hz1 hz2 hz3 hs1w hs2w hs3w hs4 hs5 hsc hk6 hk9 hk6b
  refine wp_region_held_drew (S := AS w SS (fun b => b = k6) (fun b => b = k9) g (some ⟨k6, 0, none⟩) (some ⟨k9, 0, none⟩)) (by kernel_rfl) HI (fun hS => ?_)
  clear HI
  refine wpAnyH_take (i := 0) (v := ?_) rfl (by kernel_rfl) (by kernel_rfl) (by kernel_rfl) (fun _ _ _ h => h) (Or.inl ⟨by rfl, ?_⟩) hS ?_
  rotate_left
  · (intro wq hSw; go_simp; try with_reducible rfl)
  refine wpAnyH_take (i := 1) (v := ?_) rfl (by kernel_rfl) (by kernel_rfl) (by kernel_rfl) (fun _ _ _ h => h) (Or.inl ⟨by rfl, ?_⟩) hS ?_
  rotate_left
  · (intro wq hSw; go_simp; try with_reducible rfl)
  simp only [List.getElem_toArray, List.getElem_cons_succ, List.getElem_cons_zero, Act.put, List.setIfInBounds_toArray, List.set_cons_succ, List.set_cons_zero]
  refine wpAnyH_take (i := 2) (v := ?_) rfl (by kernel_rfl) (by kernel_rfl) (by kernel_rfl) (fun _ _ _ h => h) (Or.inl ⟨by rfl, ?_⟩) hS ?_
  rotate_left
  · (intro wq hSw; go_simp; try with_reducible rfl)
  simp only [List.getElem_toArray, List.getElem_cons_succ, List.getElem_cons_zero, Act.put, List.setIfInBounds_toArray, List.set_cons_succ, List.set_cons_zero]
  refine wpAnyH_take (i := 3) (v := ?_) rfl (by kernel_rfl) (by kernel_rfl) (by kernel_rfl) (fun _ _ _ h => h) (Or.inl ⟨by rfl, ?_⟩) hS ?_
  rotate_left
  · (intro wq hSw; go_simp; try with_reducible rfl)
  simp only [List.getElem_toArray, List.getElem_cons_succ, List.getElem_cons_zero, Act.put, List.setIfInBounds_toArray, List.set_cons_succ, List.set_cons_zero]
  refine wpAnyH_take (i := 4) (v := ?_) rfl (by kernel_rfl) (by kernel_rfl) (by kernel_rfl) (fun _ _ _ h => h) (Or.inl ⟨by rfl, ?_⟩) hS ?_
  rotate_left
  · (intro wq hSw; go_simp; try with_reducible rfl)
  simp only [List.getElem_toArray, List.getElem_cons_succ, List.getElem_cons_zero, Act.put, List.setIfInBounds_toArray, List.set_cons_succ, List.set_cons_zero]
  refine wpAnyH_take (i := 5) (v := ?_) rfl (by kernel_rfl) (by kernel_rfl) (by kernel_rfl) (fun _ _ _ h => h) (Or.inl ⟨by rfl, ?_⟩) hS ?_
  rotate_left
  · (intro wq hSw; go_simp; try with_reducible rfl)
  simp only [List.getElem_toArray, List.getElem_cons_succ, List.getElem_cons_zero, Act.put, List.setIfInBounds_toArray, List.set_cons_succ, List.set_cons_zero]
  refine wpAnyH_take (i := 6) (v := ?_) rfl (by kernel_rfl) (by kernel_rfl) (by kernel_rfl) (fun _ _ _ h => h) (Or.inl ⟨by rfl, ?_⟩) hS ?_
  rotate_left
  · (intro wq hSw; go_simp; try with_reducible rfl)
  simp only [List.getElem_toArray, List.getElem_cons_succ, List.getElem_cons_zero, Act.put, List.setIfInBounds_toArray, List.set_cons_succ, List.set_cons_zero]
  refine wpAnyH_take (i := 7) (v := ?_) rfl (by kernel_rfl) (by kernel_rfl) (by kernel_rfl) (fun _ _ _ h => h) (Or.inl ⟨by rfl, ?_⟩) hS ?_
  rotate_left
  · (intro wq hSw; go_simp; try with_reducible rfl)
  simp only [List.getElem_toArray, List.getElem_cons_succ, List.getElem_cons_zero, Act.put, List.setIfInBounds_toArray, List.set_cons_succ, List.set_cons_zero]
  refine wpAnyH_take (i := 8) (v := ?_) rfl (by kernel_rfl) (by kernel_rfl) (by kernel_rfl) (fun _ _ _ h => h) (Or.inl ⟨by rfl, ?_⟩) hS ?_
  rotate_left
  · (intro wq hSw; go_simp; try with_reducible rfl)
  simp only [List.getElem_toArray, List.getElem_cons_succ, List.getElem_cons_zero, Act.put, List.setIfInBounds_toArray, List.set_cons_succ, List.set_cons_zero]
  refine wpAnyH_take (i := 9) (v := ?_) rfl (by kernel_rfl) (by kernel_rfl) (by kernel_rfl) (fun _ _ _ h => h) (Or.inl ⟨by rfl, ?_⟩) hS ?_
  rotate_left
  · (intro wq hSw; go_simp; try with_reducible rfl)
  simp only [List.getElem_toArray, List.getElem_cons_succ, List.getElem_cons_zero, Act.put, List.setIfInBounds_toArray, List.set_cons_succ, List.set_cons_zero]
  refine wpAnyH_take (i := 10) (v := ?_) rfl (by kernel_rfl) (by kernel_rfl) (by kernel_rfl) (fun _ _ _ h => h) (Or.inl ⟨by rfl, ?_⟩) hS ?_
  rotate_left
  · (intro wq hSw; go_simp; try with_reducible rfl)
  simp only [List.getElem_toArray, List.getElem_cons_succ, List.getElem_cons_zero, Act.put, List.setIfInBounds_toArray, List.set_cons_succ, List.set_cons_zero]
  refine wpAnyH_take (i := 11) (v := ?_) rfl (by kernel_rfl) (by kernel_rfl) (by kernel_rfl) (fun _ _ _ h => h) (Or.inl ⟨by rfl, ?_⟩) hS ?_
  rotate_left
  · (intro wq hSw; go_simp; try with_reducible rfl)
  simp only [List.getElem_toArray, List.getElem_cons_succ, List.getElem_cons_zero, Act.put, List.setIfInBounds_toArray, List.set_cons_succ, List.set_cons_zero]
  refine wpAnyH_take (i := 12) (v := ?_) rfl (by kernel_rfl) (by kernel_rfl) (by kernel_rfl) (fun _ _ _ h => h) (Or.inl ⟨by rfl, ?_⟩) hS ?_
  rotate_left
  · (intro wq hSw; go_simp; try with_reducible rfl)
  simp only [List.getElem_toArray, List.getElem_cons_succ, List.getElem_cons_zero, Act.put, List.setIfInBounds_toArray, List.set_cons_succ, List.set_cons_zero]
  refine wpAnyH_take (i := 13) (v := ?_) rfl (by kernel_rfl) (by kernel_rfl) (by kernel_rfl) (fun _ _ _ h => h) (Or.inl ⟨by rfl, ?_⟩) hS ?_
  rotate_left
  · (intro wq hSw; go_simp; try with_reducible rfl)
  simp only [List.getElem_toArray, List.getElem_cons_succ, List.getElem_cons_zero, Act.put, List.setIfInBounds_toArray, List.set_cons_succ, List.set_cons_zero]
  refine wpAnyH_take (i := 14) (v := ?_) rfl (by kernel_rfl) (by kernel_rfl) (by kernel_rfl) (fun _ _ _ h => h) (Or.inl ⟨by rfl, ?_⟩) hS ?_
  rotate_left
  · (intro wq hSw; go_simp; try with_reducible rfl)
  simp only [List.getElem_toArray, List.getElem_cons_succ, List.getElem_cons_zero, Act.put, List.setIfInBounds_toArray, List.set_cons_succ, List.set_cons_zero]
  refine wpAnyH_take (i := 15) (v := ?_) rfl (by kernel_rfl) (by kernel_rfl) (by kernel_rfl) (fun _ _ _ h => h) (Or.inl ⟨by rfl, ?_⟩) hS ?_
  rotate_left
  · (intro wq hSw; go_simp; try with_reducible rfl)
  simp only [List.getElem_toArray, List.getElem_cons_succ, List.getElem_cons_zero, Act.put, List.setIfInBounds_toArray, List.set_cons_succ, List.set_cons_zero]
  refine wpAnyH_take (i := 16) (v := ?_) rfl (by kernel_rfl) (by kernel_rfl) (by kernel_rfl) (fun _ _ _ h => h) (Or.inl ⟨by rfl, ?_⟩) hS ?_
  rotate_left
  · (intro wq hSw; go_simp; try with_reducible rfl)
  simp only [List.getElem_toArray, List.getElem_cons_succ, List.getElem_cons_zero, Act.put, List.setIfInBounds_toArray, List.set_cons_succ, List.set_cons_zero]
  refine wpAnyH_take (i := 17) (v := ?_) rfl (by kernel_rfl) (by kernel_rfl) (by kernel_rfl) (fun _ _ _ h => h) (Or.inl ⟨by rfl, ?_⟩) hS ?_
  rotate_left
  · (intro wq hSw; go_simp; try with_reducible rfl)
  simp only [List.getElem_toArray, List.getElem_cons_succ, List.getElem_cons_zero, Act.put, List.setIfInBounds_toArray, List.set_cons_succ, List.set_cons_zero]
  refine wpAnyH_take (i := 18) (v := ?_) rfl (by kernel_rfl) (by kernel_rfl) (by kernel_rfl) (fun _ _ _ h => h) (Or.inl ⟨by rfl, ?_⟩) hS ?_
  rotate_left
  · (intro wq hSw; go_simp; try with_reducible rfl)
  simp only [List.getElem_toArray, List.getElem_cons_succ, List.getElem_cons_zero, Act.put, List.setIfInBounds_toArray, List.set_cons_succ, List.set_cons_zero]
  refine wpAnyH_take (i := 19) (v := ?_) rfl (by kernel_rfl) (by kernel_rfl) (by kernel_rfl) (fun _ _ _ h => h) (Or.inl ⟨by rfl, ?_⟩) hS ?_
  rotate_left
  · (intro wq hSw; go_simp; try with_reducible rfl)
  simp only [List.getElem_toArray, List.getElem_cons_succ, List.getElem_cons_zero, Act.put, List.setIfInBounds_toArray, List.set_cons_succ, List.set_cons_zero]
  refine wpAnyH_take (i := 20) (v := ?_) rfl (by kernel_rfl) (by kernel_rfl) (by kernel_rfl) (fun _ _ _ h => h) (Or.inl ⟨by rfl, ?_⟩) hS ?_
  rotate_left
  · (intro wq hSw; go_simp; try with_reducible rfl)
  simp only [List.getElem_toArray, List.getElem_cons_succ, List.getElem_cons_zero, Act.put, List.setIfInBounds_toArray, List.set_cons_succ, List.set_cons_zero]
  refine wpAnyH_take (i := 21) (v := ?_) rfl (by kernel_rfl) (by kernel_rfl) (by kernel_rfl) (fun _ _ _ h => h) (Or.inl ⟨by rfl, ?_⟩) hS ?_
  rotate_left
  · (intro wq hSw; go_simp; try with_reducible rfl)
  simp only [List.getElem_toArray, List.getElem_cons_succ, List.getElem_cons_zero, Act.put, List.setIfInBounds_toArray, List.set_cons_succ, List.set_cons_zero]
  refine wpAnyH_take (i := 22) (v := ?_) rfl (by kernel_rfl) (by kernel_rfl) (by kernel_rfl) (fun _ _ _ h => h) (Or.inl ⟨by rfl, ?_⟩) hS ?_
  rotate_left
  · (intro wq hSw; go_simp; try with_reducible rfl)
  simp only [List.getElem_toArray, List.getElem_cons_succ, List.getElem_cons_zero, Act.put, List.setIfInBounds_toArray, List.set_cons_succ, List.set_cons_zero]
  refine wpAnyH_take (i := 23) (v := ?_) rfl (by kernel_rfl) (by kernel_rfl) (by kernel_rfl) (fun _ _ _ h => h) (Or.inl ⟨by rfl, ?_⟩) hS ?_
  rotate_left
  · (intro wq hSw; go_simp; try with_reducible rfl)
  simp only [List.getElem_toArray, List.getElem_cons_succ, List.getElem_cons_zero, Act.put, List.setIfInBounds_toArray, List.set_cons_succ, List.set_cons_zero]
  refine wpAnyH_take (i := 24) (v := ?_) rfl (by kernel_rfl) (by kernel_rfl) (by kernel_rfl) (fun _ _ _ h => h) (Or.inl ⟨by rfl, ?_⟩) hS ?_
  rotate_left
  · (intro wq hSw; have hcv := run_conv _ _ 512 512 _ _ hSw.1.r6; clear hSw; go_simp; try with_reducible rfl)
  simp only [List.getElem_toArray, List.getElem_cons_succ, List.getElem_cons_zero, Act.put, List.setIfInBounds_toArray, List.set_cons_succ, List.set_cons_zero]
  refine wpAnyH_ready (rs := [25]) (by kernel_rfl) (by simp) ?_
  refine AllReadyH.cons rfl (fun K hK => ?_) AllReadyH.nil
  go_simp
  refine (full_fl 2 (by omega) _).mono ?_
  rintro e x ⟨Ax, cx, rfl, hr, hf⟩
  have hcvx := run_conv _ _ 512 cx _ _ hr
  refine hK.out _ _ ?_ (fun hS => ?_)
  · exact hS.fr hf
  clear hK K
  refine wpAnyH_ready (rs := [26]) (by kernel_rfl) (by simp) ?_
  refine AllReadyH.cons rfl (fun K hK => ?_) AllReadyH.nil
  go_simp
  refine hK.out _ _ hS (fun hS => ?_)
  clear hK K
  refine wpAnyH_take (i := 27) (v := ?_) rfl (by kernel_rfl) (by kernel_rfl) (by kernel_rfl) (fun _ _ _ h => h) (Or.inl ⟨by rfl, ?_⟩) hS ?_
  rotate_left
  · (intro wq hSw; go_simp; try with_reducible rfl)
  simp only [List.getElem_toArray, List.getElem_cons_succ, List.getElem_cons_zero, Act.put, List.setIfInBounds_toArray, List.set_cons_succ, List.set_cons_zero]
  refine wpAnyH_take (i := 28) (v := ?_) rfl (by kernel_rfl) (by kernel_rfl) (by kernel_rfl) (fun _ _ _ h => h) (Or.inl ⟨by rfl, ?_⟩) hS ?_
  rotate_left
  · (intro wq hSw; go_simp; try with_reducible rfl)
  simp only [List.getElem_toArray, List.getElem_cons_succ, List.getElem_cons_zero, Act.put, List.setIfInBounds_toArray, List.set_cons_succ, List.set_cons_zero]
  refine wpAnyH_take (i := 29) (v := ?_) rfl (by kernel_rfl) (by kernel_rfl) (by kernel_rfl) (fun _ _ _ h => h) (Or.inl ⟨by rfl, ?_⟩) hS ?_
  rotate_left
  · (intro wq hSw; go_simp; try with_reducible rfl)
  simp only [List.getElem_toArray, List.getElem_cons_succ, List.getElem_cons_zero, Act.put, List.setIfInBounds_toArray, List.set_cons_succ, List.set_cons_zero]
  refine wpAnyH_take (i := 30) (v := ?_) rfl (by kernel_rfl) (by kernel_rfl) (by kernel_rfl) (fun _ _ _ h => h) (Or.inl ⟨by rfl, ?_⟩) hS ?_
  rotate_left
  · (intro wq hSw; go_simp; try with_reducible rfl)
  simp only [List.getElem_toArray, List.getElem_cons_succ, List.getElem_cons_zero, Act.put, List.setIfInBounds_toArray, List.set_cons_succ, List.set_cons_zero]
  refine wpAnyH_take (i := 31) (v := ?_) rfl (by kernel_rfl) (by kernel_rfl) (by kernel_rfl) (fun _ _ _ h => h) (Or.inl ⟨by rfl, ?_⟩) hS ?_
  rotate_left
  · (intro wq hSw; have hcv := run_conv _ _ 512 512 _ _ hSw.1.r9; clear hSw; go_simp; try with_reducible rfl)
  simp only [List.getElem_toArray, List.getElem_cons_succ, List.getElem_cons_zero, Act.put, List.setIfInBounds_toArray, List.set_cons_succ, List.set_cons_zero]
  refine wpAnyH_ready (rs := [32]) (by kernel_rfl) (by simp) ?_
  refine AllReadyH.cons rfl (fun K hK => ?_) AllReadyH.nil
  go_simp
  refine (full_fl 1 (by omega) _).mono ?_
  rintro e x ⟨Ax, cx, rfl, hr, hf⟩
  have hcvx := run_conv _ _ 512 cx _ _ hr
  refine hK.out _ _ ?_ (fun hS => ?_)
  · exact hS.fr hf
  clear hK K
  refine wpAnyH_ready (rs := [33]) (by kernel_rfl) (by simp) ?_
  refine AllReadyH.cons rfl (fun K hK => ?_) AllReadyH.nil
  go_simp
  refine hK.out _ _ hS (fun hS => ?_)
  clear hK K
  refine wpAnyH_take (i := 34) (v := ?_) rfl (by kernel_rfl) (by kernel_rfl) (by kernel_rfl) (fun _ _ _ h => h) (Or.inl ⟨by rfl, ?_⟩) hS ?_
  rotate_left
  · (intro wq hSw; go_simp; try with_reducible rfl)
  simp only [List.getElem_toArray, List.getElem_cons_succ, List.getElem_cons_zero, Act.put, List.setIfInBounds_toArray, List.set_cons_succ, List.set_cons_zero]
  refine wpAnyH_take (i := 35) (v := ?_) rfl (by kernel_rfl) (by kernel_rfl) (by kernel_rfl) (fun _ _ _ h => h) (Or.inl ⟨by rfl, ?_⟩) hS ?_
  rotate_left
  · (intro wq hSw; go_simp; try with_reducible rfl)
  simp only [List.getElem_toArray, List.getElem_cons_succ, List.getElem_cons_zero, Act.put, List.setIfInBounds_toArray, List.set_cons_succ, List.set_cons_zero]
  refine wpAnyH_take (i := 36) (v := ?_) rfl (by kernel_rfl) (by kernel_rfl) (by kernel_rfl) (fun _ _ _ h => h) (Or.inl ⟨by rfl, ?_⟩) hS ?_
  rotate_left
  · (intro wq hSw; go_simp; try with_reducible rfl)
  simp only [List.getElem_toArray, List.getElem_cons_succ, List.getElem_cons_zero, Act.put, List.setIfInBounds_toArray, List.set_cons_succ, List.set_cons_zero]
  refine wpAnyH_take (i := 37) (v := ?_) rfl (by kernel_rfl) (by kernel_rfl) (by kernel_rfl) (fun _ _ _ h => h) (Or.inl ⟨by rfl, ?_⟩) hS ?_
  rotate_left
  · (intro wq hSw; go_simp; try with_reducible rfl)
  simp only [List.getElem_toArray, List.getElem_cons_succ, List.getElem_cons_zero, Act.put, List.setIfInBounds_toArray, List.set_cons_succ, List.set_cons_zero]
  refine wpAnyH_ready (rs := [38]) (by kernel_rfl) (by simp) ?_
  refine AllReadyH.cons rfl (fun K hK => ?_) AllReadyH.nil
  go_simp
  refine (show Calls Try.prog 15 #[.pointer (some ⟨g, 0, none⟩)] _ fun e w' => e = .returned (.int .i64 0) ∧ _ = w' from pending_any _ _ g D6 hS.1.d).mono ?_
  rintro e x ⟨rfl, rfl⟩
  refine hK.out _ _ ?_ (fun hS => ?_)
  · exact hS
  clear hK K
  refine wpAnyH_take (i := 39) (v := ?_) rfl (by kernel_rfl) (by kernel_rfl) (by kernel_rfl) (fun _ _ _ h => h) (Or.inl ⟨by rfl, ?_⟩) hS ?_
  rotate_left
  · (intro wq hSw; go_simp; try with_reducible rfl)
  simp only [List.getElem_toArray, List.getElem_cons_succ, List.getElem_cons_zero, Act.put, List.setIfInBounds_toArray, List.set_cons_succ, List.set_cons_zero]
  refine wpAnyH_take (i := 40) (v := ?_) rfl (by kernel_rfl) (by kernel_rfl) (by kernel_rfl) (fun _ _ _ h => h) (Or.inl ⟨by rfl, ?_⟩) hS ?_
  rotate_left
  · (intro wq hSw; go_simp; try with_reducible rfl)
  simp only [List.getElem_toArray, List.getElem_cons_succ, List.getElem_cons_zero, Act.put, List.setIfInBounds_toArray, List.set_cons_succ, List.set_cons_zero]
  refine wpAnyH_take (i := 41) (v := ?_) rfl (by kernel_rfl) (by kernel_rfl) (by kernel_rfl) (fun _ _ _ h => h) (Or.inl ⟨by rfl, ?_⟩) hS ?_
  rotate_left
  · (intro wq hSw; go_simp; try with_reducible rfl)
  refine wpAnyH_done (by kernel_rfl) ?_ _
  go_wp2
  go_ret
  exact ⟨rfl, hS.2.below (fun _ hb => hb.elim) (Nat.le_refl _)⟩
end Go.Proofs.Ytjblcligkgjbjaa
