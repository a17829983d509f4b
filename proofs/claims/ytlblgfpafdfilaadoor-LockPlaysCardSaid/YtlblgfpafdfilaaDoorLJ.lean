/-
STAGE 12: orNone, New, Has, Clone of locks, All, copied. STAGE 12: slices.Clone of locks, All, strings.Clone, copied. STAGE 12: copied.
-/
import Derived.Test.YtlblgfpafdfilaaDoorLG
import Derived.Test.YtlblgfpafdfilaaDoorLI
import Derived.Test.YtlblgfpafdfilaaDoorShelf
import Derived.Test.YtlblgfpafdfilaaDoorUW
namespace Go.Proofs.YtlblgfpafdfilaaDoor
open Go.RowKit Go.Sort

/-- a table of nobody: nil, read as one without locks -/
def none29 : Array Value := #[.slice none 0 0]
theorem new29 (w : World) : TR (w.alloc (.cells none29 29)) w.heap.size none 0 [] := ⟨Blk.new w 29 none29, fun i l h => by simp at h, fun l h => by simp at h, by simp, by simp⟩
set_option maxRecDepth 100000 in
theorem orNone_some (g : Nat) (w : World) : Calls Tryd.prog 31 #[.pointer (some ⟨g, 0, none⟩)] w fun e w' => e = .returned (.pointer (some ⟨g, 0, none⟩)) ∧ w = w' := by
  go_enter Tryd.func31, Tryd.ntmps31
  go_wp2_with fail
  go_ret
  exact ⟨rfl, rfl⟩
set_option maxRecDepth 100000 in
theorem orNone_nil (w : World) : Calls Tryd.prog 31 #[.pointer none] w fun e w' => ∃ g, e = .returned (.pointer (some ⟨g, 0, none⟩)) ∧ TR w' g none 0 [] ∧ Below w.heap.size w w' ∧ Blk w' g 29 none29 ∧ w.heap.size ≤ g := by
  have H1 := Lib.hid (new29 w)
  have H2 := Lib.hid (show Below w.heap.size w (w.alloc (.cells none29 29)) from (Below.refl _ _).alloc (Nat.le_refl _) _)
  have H3 := Lib.hid (Blk.new w 29 none29)
  unfold none29 at H1 H2
  go_enter Tryd.func31, Tryd.ntmps31
  go_wp2_with fail
  go_ret
  exact ⟨_, rfl, H1.out, H2.out, H3.out, Nat.le_refl _⟩
set_option maxRecDepth 100000 in
theorem new_any (w : World) (h2 : 2 ≤ w.heap.size) : Calls Tryd.prog 10 #[] w fun e w' => e = .returned (.pointer (some ⟨w.heap.size, 0, none⟩)) ∧ TB w' w.heap.size (.slice none 0 0) [] ∧ Below w.heap.size w w' := by
  have H2 := Lib.hid (show Below w.heap.size w (w.alloc (.cells none29 29)) from (Below.refl _ _).alloc (Nat.le_refl _) _)
  have H3 := Lib.hid (show TB (w.alloc (.cells none29 29)) w.heap.size (.slice none 0 0) [] from ⟨Blk.new w 29 none29, OwR.nil_ _ _ _ _, fun l h => by simp at h, by simp, h2, fun b h => by simp [Value.ownBlock] at h⟩)
  unfold none29 at H2 H3
  go_enter Tryd.func10, Tryd.ntmps10
  go_wp2_with fail
  go_ret
  exact ⟨rfl, H3.out, H2.out⟩
theorem mayM_mode {x : Th} {m : Int} (h : mayM x m = true) : 1 ≤ m ∧ m ≤ 4 := by
  unfold mayM at h
  split at h
  · simp only [Bool.and_eq_true, Bool.or_eq_true, beq_iff_eq] at h
    omega
  · simp only [Bool.and_eq_true, decide_eq_true_eq] at h
    omega
/-- whether a transaction holds that, or more -/
def hasM (t : Nat) (x : Th) (m : Int) (ls : List LK) : Bool := mayM x m && ls.any (hasP t x m)
theorem boxes3 (w : World) (t : Nat) (x : Th) (m : Int) : ∃ W, ((w.alloc (.cells #[.int .u32 (t : Int)] 34)).alloc (box36 x)).alloc (.cells #[.int .i64 m] 3) = W ∧ Below w.heap.size w W ∧ Blk W w.heap.size 34 #[.int .u32 (t : Int)] ∧ Blk W (w.heap.size + 1) 36 (tcs x) ∧ Blk W (w.heap.size + 1 + 1) 3 #[.int .i64 m] := by
  refine ⟨_, rfl, (((Below.refl w.heap.size w).alloc (Nat.le_refl _) _).alloc (by simp) _).alloc (by simp; omega) _, ((Blk.new w 34 _).alloc _).alloc _, ?_, ?_⟩
  · have := (Blk.new (w.alloc (.cells #[.int .u32 (t : Int)] 34)) 36 (tcs x)).alloc (.cells #[.int .i64 m] 3)
    rwa [World.size_alloc] at this
  · have := Blk.new ((w.alloc (.cells #[.int .u32 (t : Int)] 34)).alloc (box36 x)) 3 #[.int .i64 m]
    rwa [World.size_alloc, World.size_alloc] at this
set_option maxRecDepth 100000 in
set_option maxHeartbeats 1000000 in
theorem has_any (g : Nat) (A : Option Addr) (c : Nat) (ls : List LK) (w : World) (hT : TR w g A c ls) (hg : Gw w) (t : Nat) (x : Th) (m : Int) (hA : x.a.size ≤ 9223372036854775807) (hB : x.b.size ≤ 9223372036854775807) :
    Calls Tryd.prog 21 #[.pointer (some ⟨g, 0, none⟩), .int .u32 (t : Int), x.agg, .int .i64 m] w fun e w' => e = .returned (.bool (hasM t x m ls)) ∧ Below w.heap.size w w' := by
  obtain ⟨W, hW, hb, b1, b2, b3⟩ := boxes3 w t x m
  have HB := Lib.hid hb
  have H1 := Lib.hid b1
  have H2 := Lib.hid b2
  have H3 := Lib.hid b3
  have HM := Lib.hid (fun W => may_any x m hA hB W)
  have HMO := Lib.hid (fun h : mayM x m = true => mayM_mode h)
  have HT := Lib.hid (hT.up hb)
  have HG := Lib.hid (hg.below hb)
  obtain ⟨c0, c1, c2, c3⟩ := blk36 b2
  have d0 := b3.cell 0
  simp only [List.getElem?_toArray, List.getElem?_cons_zero] at d0
  unfold hasM
  have HS := Lib.hid (fun (h : mayM x m = true) (W' : World) (hW' : Below W.heap.size W W') => some_any 45 (Or.inr (Or.inl rfl)) #[.pointer (some ⟨w.heap.size, 0, none⟩), .pointer (some ⟨w.heap.size + 1 + 1, 0, none⟩), .pointer (some ⟨w.heap.size + 1, 0, none⟩)] (hasP t x m) g A c ls W' (HT.out.up hW')
    (fun k l b hl e W2 hW2 => hasP_any t _ _ _ x m (mayM_mode h) l (HT.out.ok l (List.mem_of_getElem? hl)) b _ W2 (HG.out.below (below_trans hW' hW2)) (by
      obtain ⟨b2, e2, hc⟩ := HT.out.row k l hl
      obtain rfl : b2 = b := by rw [e2] at e; injection e with e; injection e
      exact (hc.up hW').up hW2) ((H1.out.below (below_trans hW' hW2) H1.out.lt).cell 0) ((H3.out.below (below_trans hW' hW2) H3.out.lt).cell 0) (H2.out.below (below_trans hW' hW2) H2.out.lt)))
  generalize ls.any (hasP t x m) = r at HS ⊢
  obtain ⟨xr, xi, xa, xb⟩ := x
  generalize mayM _ _ = my at HM HS HMO ⊢
  simp only [Th.agg, box36, tcs] at hW HM c0 c1 c2 c3 ⊢
  clear hb b1 b2 b3 hT hg hA hB
  cases my
  · go_enter Tryd.func21, Tryd.ntmps21
    go_upto_region 1 with fail
    clear hW
    go_wp2_with (go_at_call 41; with_reducible refine (HM.out _).mono ?_; rintro e w1 ⟨rfl, hb1⟩; have HB1 := Lib.hid hb1; clear hb1)
    go_ret
    exact ⟨rfl, below_trans HB.out HB1.out⟩
  · have HS' := Lib.hid (HS.out rfl)
    clear HS HMO
    go_enter Tryd.func21, Tryd.ntmps21
    go_upto_region 1 with fail
    clear hW
    go_wp2_with (first
      | (go_at_call 41; with_reducible refine (HM.out _).mono ?_; rintro e w1 ⟨rfl, hb1⟩; have HB1 := Lib.hid hb1; clear hb1)
      | (go_at_call 31; with_reducible refine (orNone_some _ _).mono ?_; rintro e w2 ⟨rfl, rfl⟩)
      | (go_at_call 42; with_reducible refine (HS'.out _ HB1.out).mono ?_; rintro e w3 ⟨rfl, hb3⟩; have HB3 := Lib.hid hb3; clear hb3))
    go_ret
    exact ⟨by simp, below_trans (below_trans HB.out HB1.out) HB3.out⟩
end Go.Proofs.YtlblgfpafdfilaaDoor
namespace Go.Proofs.YtlblgfpafdfilaaDoor
open Go.RowKit Go.Sort

/-- a row of locks in new memory -/
def NewL (w : World) (ls : List LK) (v : Value) (w' : World) : Prop := OwR w' 46 7 lf v ls ∧ Below w.heap.size w w' ∧ ∀ b, v.ownBlock = some b → w.heap.size ≤ b
theorem Row.app {w : World} {A : Option Addr} {ls : List LK} (h : Row w A ls) : ∀ i x j u, ls[i]? = some x → (lf x)[j]? = some u → ∃ ad, A = some ad ∧ w.cell? (ad.add (i * 7 + j)) = some u := by
  intro i x j u hi hj
  obtain ⟨b, e, c0, c1, c2, c3, c4, c5, c6⟩ := h i x hi
  refine ⟨_, e, ?_⟩
  rw [add_head]
  have hl := (List.getElem?_eq_some_iff.1 hj).1
  match j, hl, hj with
  | 0, _, hj => injection hj with hj; subst hj; exact c0
  | 1, _, hj => injection hj with hj; subst hj; exact c1
  | 2, _, hj => injection hj with hj; subst hj; exact c2
  | 3, _, hj => injection hj with hj; subst hj; exact c3
  | 4, _, hj => injection hj with hj; subst hj; exact c4
  | 5, _, hj => injection hj with hj; subst hj; exact c5
  | 6, _, hj => injection hj with hj; subst hj; exact c6
  | j + 7, hl, _ => simp [lf] at hl; omega
theorem below_of_grown {w w' : World} {B : Nat} {row : Option Nat} (hg : w.grownBy w' row) (hr : ∀ b, row = some b → B ≤ b) (hB : B ≤ w.heap.size) : Below B w w' :=
  ⟨hg.os, hg.tape, hg.output, hg.size, fun k hk => hg.block k (by omega) fun e => by have := hr k e.symm; omega⟩
set_option maxRecDepth 100000 in
set_option maxHeartbeats 1000000 in
theorem cloneL_any (A : Option Addr) (c : Nat) (ls : List LK) (w : World) (hr : Row w A ls) (h0 : A = none → ls = []) (hn : ls.length ≤ 16384) :
    Calls Tryd.prog 30 #[.slice A ls.length c] w fun e w' => ∃ v, e = .returned v ∧ NewL w ls v w' := by
  rcases A with _ | ad
  · have hl := h0 rfl
    subst hl
    simp only [List.length_nil]
    clear hr h0 hn
    have he := fun W : World => Lib.run_eql_slice_nil (P := Tryd.prog) W 27 46 none 0 c 0 0 Tryd.underlying27
    go_enter Tryd.func30, Tryd.ntmps30
    go_wp2_with fail
    go_ret
    exact ⟨_, rfl, OwR.nil_ _ _ _ _, Below.refl _ _, fun b hb => by simp [Value.ownBlock] at hb⟩
  · have HO := Lib.hid (show OwR (w.alloc (.cells #[] 46)) 46 7 lf (.slice (some ⟨w.heap.size, 0, none⟩) 0 0) [] from World.ownsRow_made w #[] 0 (Nat.zero_le _) (Nat.zero_le _) rfl)
    have HR := Lib.hid (Row.app (hr.up ((Below.refl w.heap.size w).alloc (Nat.le_refl _) (.cells #[] 46))))
    have HN := Lib.hid hn
    obtain ⟨n, hnn⟩ : ∃ n, n = ls.length := ⟨_, rfl⟩
    rw [← hnn]
    have HE := Lib.hid hnn
    have he := fun W : World => Lib.run_eql_slice_nil (P := Tryd.prog) W 27 46 (some ad) n c 0 0 Tryd.underlying27
    clear hr h0 hn hnn
    go_enter Tryd.func30, Tryd.ntmps30
    go_wp2_with (at_builtin; go_must (refine wpList_appR K46 lf_len lf_one rfl (.tmp 5) (.tmp 6) rfl _ [] rfl HO.out (some ad) n c ls rfl HE.out.symm HR.out (by simp; have := HN.out; have := HE.out; omega) (by simp; have := HN.out; have := HE.out; omega) ?_); intro v' w' hv hg hb)
    go_ret
    rw [List.nil_append] at hv
    replace hg : (w.alloc (.cells #[] 46)).grownBy w' (some w.heap.size) := hg
    replace hb : v'.ownBlock = some w.heap.size ∨ v'.ownBlock = some (w.alloc (.cells #[] 46)).heap.size := hb
    refine ⟨_, rfl, hv, ?_, fun b hb' => ?_⟩
    · exact ((Below.refl w.heap.size w).alloc (Nat.le_refl _) _).trans (below_of_grown hg (fun b hb => by injection hb with hb; omega) (by simp))
    · replace hb' : v'.ownBlock = some b := hb'
      rcases hb with hb | hb
      · rw [hb] at hb'; injection hb' with hb'; omega
      · rw [hb] at hb'; injection hb' with hb'; rw [← hb']; simp
set_option maxRecDepth 100000 in
theorem all_any (g : Nat) (A : Option Addr) (c : Nat) (ls : List LK) (w : World) (hT : TR w g A c ls) (h0 : A = none → ls = []) :
    Calls Tryd.prog 12 #[.pointer (some ⟨g, 0, none⟩)] w fun e w' => ∃ v, e = .returned v ∧ NewL w ls v w' := by
  have HC := Lib.hid (cloneL_any A c ls w hT.row h0 hT.few)
  have c0 := hT.blk.cell 0
  simp only [List.getElem?_toArray, List.getElem?_cons_zero] at c0
  obtain ⟨n, hnn⟩ : ∃ n, n = ls.length := ⟨_, rfl⟩
  rw [← hnn] at c0 HC
  clear hT h0 hnn
  go_enter Tryd.func12, Tryd.ntmps12
  go_wp2_with (first
    | (go_at_call 31; with_reducible refine (orNone_some _ _).mono ?_; rintro e w2 ⟨rfl, rfl⟩)
    | (go_at_call 30; with_reducible refine HC.out.mono ?_; rintro e w3 ⟨v, rfl, hv⟩; have HV := Lib.hid hv; clear hv))
  go_ret
  exact ⟨_, rfl, HV.out⟩
set_option maxRecDepth 100000 in
theorem all_nil (w : World) : Calls Tryd.prog 12 #[.pointer none] w fun e w' => ∃ v, e = .returned v ∧ NewL w [] v w' := by
  have HCN : ∀ W, Calls Tryd.prog 30 #[.slice none 0 0] W fun e w' => ∃ v, e = .returned v ∧ NewL W [] v w' := fun W => cloneL_any none 0 [] W (fun i l h => by simp at h) (fun _ => rfl) (by simp)
  replace HCN := Lib.hid HCN
  go_enter Tryd.func12, Tryd.ntmps12
  go_wp2_with (first
    | (go_at_call 31; with_reducible refine (orNone_nil _).mono ?_; rintro e w2 ⟨g, rfl, hT, hb, hk, hge⟩; have HT := Lib.hid hT; have HB := Lib.hid hb; have c0 := hk.cell 0; simp only [none29, List.getElem?_toArray, List.getElem?_cons_zero] at c0; clear hT hb hk hge)
    | (go_at_call 30; with_reducible refine (HCN.out _).mono ?_; rintro e w3 ⟨v, rfl, hv⟩; have HV := Lib.hid hv; clear hv))
  go_ret
  exact ⟨_, rfl, HV.out.1, below_trans HB.out HV.out.2.1, fun b hb => Nat.le_trans HB.out.size (HV.out.2.2 b hb)⟩
set_option maxRecDepth 100000 in
theorem cloneS_any (s : ByteArray) (w : World) (hs : s.size ≤ 281474976710656) : Calls Tryd.prog 66 #[.string s] w fun e w' => e = .returned (.string s) ∧ Below w.heap.size w w' := by
  have HC := Lib.hid (Tryd.stringslite_Clone s w hs)
  clear hs
  go_enter Tryd.func66, Tryd.ntmps66
  go_wp2_with (go_at_call 72; with_reducible refine HC.out.mono ?_; rintro e w2 ⟨rfl, hb⟩; have HB := Lib.hid hb; clear hb)
  go_ret
  exact ⟨rfl, HB.out⟩
end Go.Proofs.YtlblgfpafdfilaaDoor
namespace Go.Proofs.YtlblgfpafdfilaaDoor
open Go.RowKit Go.Sort

/-- a thing's two ends, as they lie in its box -/
def Ends (w : World) (g : Nat) (a b : ByteArray) : Prop := w.cell? ⟨g, 2, none⟩ = some (.string a) ∧ w.cell? ⟨g, 3, none⟩ = some (.string b) ∧ w.frozen? ⟨g, 2, none⟩ = false ∧ w.frozen? ⟨g, 3, none⟩ = false
theorem blk36_set {w : World} {g : Nat} {x : Th} (h : Blk w g 36 (tcs x)) : Blk (w.setCell ⟨g, 2, none⟩ (.string x.a)) g 36 (tcs x) ∧ Blk (w.setCell ⟨g, 3, none⟩ (.string x.b)) g 36 (tcs x) := ⟨h.set_ 2 _, h.set_ 3 _⟩
theorem below_drew {w w1 : World} (h : RowKit.Below w.drew.heap.size w.drew w1) : RowKit.Below w.heap.size w w1 := ((Below.refl w.heap.size w).drew).trans h
set_option maxRecDepth 100000 in
set_option maxHeartbeats 2000000 in
theorem copied_any (x : Th) (w : World) (hA : x.a.size ≤ 281474976710656) (hB : x.b.size ≤ 281474976710656) : Calls Tryd.prog 44 #[x.agg] w fun e w' => e = .returned x.agg ∧ Below w.heap.size w w' := by
  obtain ⟨W, hW, hb, bx, by_, hsz⟩ := boxes36 w x ⟨false, 0, ⟨#[]⟩, ⟨#[]⟩⟩
  obtain ⟨g, hg⟩ : ∃ g, g = w.heap.size := ⟨_, rfl⟩
  rw [← hg] at bx by_
  have HG := Lib.hid hg
  have HBW := Lib.hid hb
  have HX := Lib.hid bx
  have HY := Lib.hid by_
  have HCA := Lib.hid (fun W => cloneS_any x.a W hA)
  have HCB := Lib.hid (fun W => cloneS_any x.b W hB)
  obtain ⟨c0, c1, c2, c3⟩ := blk36 bx
  have f2 := bx.frozen 2
  have f3 := bx.frozen 3
  obtain ⟨xr, xi, xa, xb⟩ := x
  simp only [Th.agg, box36, tcs] at hW c0 c1 c2 c3 HCA HCB ⊢
  rw [show ((0 : Nat) : Int) = 0 from rfl] at hW
  clear hb bx by_ hsz hA hB
  go_enter Tryd.func44, Tryd.ntmps44
  go_upto_region 1 with fail
  clear hW
  rw [← HG.out]
  clear hg
  go_region_held3 (fun w' => w'.cell? ⟨g, 2, none⟩ = some (.string xa) ∧ w'.cell? ⟨g, 3, none⟩ = some (.string xb)) (first | exact ⟨by assumption, by assumption⟩ | (refine ⟨?_, ?_⟩ <;> go_simp)) (first
    | (go_at_call 66; with_reducible refine (HCA.out _).mono ?_; rintro e w1 ⟨rfl, hb1⟩; have HB1 := Lib.hid (below_drew hb1); have HX1 := Lib.hid (HX.out.below HB1.out HX.out.lt); have k2 := HX1.out.cell 2; have k3 := HX1.out.cell 3; simp only [tcs, List.getElem?_toArray, List.getElem?_cons_zero, List.getElem?_cons_succ] at k2 k3; clear hb1)
    | (go_at_call 66; with_reducible refine (HCB.out _).mono ?_; rintro e w2 ⟨rfl, hb2⟩; have HB2 := Lib.hid hb2; have HX2 := Lib.hid (HX1.out.below HB2.out HX1.out.lt); have q2 := HX2.out.cell 2; have q3 := HX2.out.cell 3; have r2 := HX2.out.frozen 2; have r3 := HX2.out.frozen 3; simp only [tcs, List.getElem?_toArray, List.getElem?_cons_zero, List.getElem?_cons_succ] at q2 q3; clear hb2))
  obtain ⟨w3, hw3⟩ : ∃ w3, (w2.setCell ⟨g, 2, none⟩ (.string xa)).setCell ⟨g, 3, none⟩ (.string xb) = w3 := ⟨_, rfl⟩
  have hx3 : Blk w3 g 36 (tcs ⟨xr, xi, xa, xb⟩) := by rw [← hw3]; exact (HX2.out.set_ 2 _).set_ 3 _
  have hy3 : Blk w3 (g + 1) 36 (tcs ⟨false, 0, ⟨#[]⟩, ⟨#[]⟩⟩) := by
    rw [← hw3]
    exact (((HY.out.below HB1.out HY.out.lt).below HB2.out (HY.out.below HB1.out HY.out.lt).lt).far (by simp) _).far (by simp) _
  have hf3 : Fr w2 w3 (fun b => b = g) := by rw [← hw3]; exact fr_set (fr_set (Fr.refl _ _) 2 _) 3 _
  rw [hw3]
  have HY3 := Lib.hid hy3
  have HF3 := Lib.hid hf3
  obtain ⟨c0, c1, c2, c3⟩ := blk36 hx3
  dsimp only at c0 c1 c2 c3
  clear hw3 hx3 hy3 hf3 k2 k3 q2 q3 r2 r3 f2 f3
  go_wp2_with (refine wpList_stB rfl 36 (.tmp 2) (.tmp 11) rfl (g + 1) #[.bool xr, .int .u32 (xi : Int), .string xa, .string xb] rfl rfl 36 _ HY3.out size36 rfl rfl ?_; intro w4 hz4 hf4; have HZ4 := Lib.hid hz4; have HF4 := Lib.hid hf4; clear hz4 hf4)
  refine bodyPost_ret (results_cell_row Tryd.results44 _ _ (g + 1) 36 _ (0, 0) _ rfl HZ4.out Tryd.underlying36 rfl size36) rfl ?_
  refine ⟨rfl, ?_⟩
  have hg := HG.out
  have hs := HBW.out.size
  exact HBW.out.trans ((HB1.out.mono hs).trans ((HB2.out.mono (Nat.le_trans hs HB1.out.size)).trans ((HF3.out.below (fun b hb => by omega) (Nat.le_trans (Nat.le_trans hs HB1.out.size) HB2.out.size)).trans (HF4.out.below (fun b hb => by omega) (Nat.le_trans (Nat.le_trans (Nat.le_trans hs HB1.out.size) HB2.out.size) HF3.out.size)))))
end Go.Proofs.YtlblgfpafdfilaaDoor
