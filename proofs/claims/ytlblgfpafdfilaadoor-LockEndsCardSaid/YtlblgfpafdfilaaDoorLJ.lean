/-
  STAGE 12: orNone, New, Has, Clone of locks, All, copied.
-/
import Derived.Test.YtlblgfpafdfilaaDoorLG
import Derived.Test.YtlblgfpafdfilaaDoorLI
import Derived.Test.YtlblgfpafdfilaaDoorShelf
namespace Go.Proofs.YtlblgfpafdfilaaDoor
open Go.RowKit Go.Sort

/-- a table of nobody: nil, read as one without locks -/
def none29 : Array Value := #[.slice none 0 0]
theorem new29 (w : World) : TR (w.alloc (.cells none29 29)) w.heap.size none 0 [] := ⟨Blk.new w 29 none29, fun i l h => by simp at h, fun l h => by simp at h, by simp, by simp⟩
set_option maxRecDepth 100000 in
theorem orNone_some (g : Nat) (w : World) : Calls Tryd.prog 31 #[.pointer (some ⟨g, 0, none⟩)] w fun e w' => e = .returned (.pointer (some ⟨g, 0, none⟩)) ∧ w = w' := by
  go_enter Tryd.func31, Tryd.ntmps31
  go_wp2_with fail
  go_ret
  exact ⟨rfl, rfl⟩
set_option maxRecDepth 100000 in
theorem orNone_nil (w : World) : Calls Tryd.prog 31 #[.pointer none] w fun e w' => ∃ g, e = .returned (.pointer (some ⟨g, 0, none⟩)) ∧ TR w' g none 0 [] ∧ Below w.heap.size w w' ∧ Blk w' g 29 none29 ∧ w.heap.size ≤ g := by
  have H1 := Lib.hid (new29 w)
  have H2 := Lib.hid (show Below w.heap.size w (w.alloc (.cells none29 29)) from (Below.refl _ _).alloc (Nat.le_refl _) _)
  have H3 := Lib.hid (Blk.new w 29 none29)
  unfold none29 at H1 H2
  go_enter Tryd.func31, Tryd.ntmps31
  go_wp2_with fail
  go_ret
  exact ⟨_, rfl, H1.out, H2.out, H3.out, Nat.le_refl _⟩
set_option maxRecDepth 100000 in
theorem new_any (w : World) (h2 : 2 ≤ w.heap.size) : Calls Tryd.prog 10 #[] w fun e w' => e = .returned (.pointer (some ⟨w.heap.size, 0, none⟩)) ∧ TB w' w.heap.size (.slice none 0 0) [] ∧ Below w.heap.size w w' := by
  have H2 := Lib.hid (show Below w.heap.size w (w.alloc (.cells none29 29)) from (Below.refl _ _).alloc (Nat.le_refl _) _)
  have H3 := Lib.hid (show TB (w.alloc (.cells none29 29)) w.heap.size (.slice none 0 0) [] from ⟨Blk.new w 29 none29, OwR.nil_ _ _ _ _, fun l h => by simp at h, by simp, h2, fun b h => by simp [Value.ownBlock] at h⟩)
  unfold none29 at H2 H3
  go_enter Tryd.func10, Tryd.ntmps10
  go_wp2_with fail
  go_ret
  exact ⟨rfl, H3.out, H2.out⟩
theorem mayM_mode {x : Th} {m : Int} (h : mayM x m = true) : 1 ≤ m ∧ m ≤ 4 := by
  unfold mayM at h
  split at h
  · simp only [Bool.and_eq_true, Bool.or_eq_true, beq_iff_eq] at h
    omega
  · simp only [Bool.and_eq_true, decide_eq_true_eq] at h
    omega
/-- whether a transaction holds that, or more -/
def hasM (t : Nat) (x : Th) (m : Int) (ls : List LK) : Bool := mayM x m && ls.any (hasP t x m)
theorem boxes3 (w : World) (t : Nat) (x : Th) (m : Int) : ∃ W, ((w.alloc (.cells #[.int .u32 (t : Int)] 34)).alloc (box36 x)).alloc (.cells #[.int .i64 m] 3) = W ∧ Below w.heap.size w W ∧ Blk W w.heap.size 34 #[.int .u32 (t : Int)] ∧ Blk W (w.heap.size + 1) 36 (tcs x) ∧ Blk W (w.heap.size + 1 + 1) 3 #[.int .i64 m] := by
  refine ⟨_, rfl, (((Below.refl w.heap.size w).alloc (Nat.le_refl _) _).alloc (by simp) _).alloc (by simp; omega) _, ((Blk.new w 34 _).alloc _).alloc _, ?_, ?_⟩
  · have := (Blk.new (w.alloc (.cells #[.int .u32 (t : Int)] 34)) 36 (tcs x)).alloc (.cells #[.int .i64 m] 3)
    rwa [World.size_alloc] at this
  · have := Blk.new ((w.alloc (.cells #[.int .u32 (t : Int)] 34)).alloc (box36 x)) 3 #[.int .i64 m]
    rwa [World.size_alloc, World.size_alloc] at this
set_option maxRecDepth 100000 in
set_option maxHeartbeats 1000000 in
theorem has_any (g : Nat) (A : Option Addr) (c : Nat) (ls : List LK) (w : World) (hT : TR w g A c ls) (hg : Gw w) (t : Nat) (x : Th) (m : Int) (hA : x.a.size ≤ 9223372036854775807) (hB : x.b.size ≤ 9223372036854775807) :
    Calls Tryd.prog 21 #[.pointer (some ⟨g, 0, none⟩), .int .u32 (t : Int), x.agg, .int .i64 m] w fun e w' => e = .returned (.bool (hasM t x m ls)) ∧ Below w.heap.size w w' := by
  obtain ⟨W, hW, hb, b1, b2, b3⟩ := boxes3 w t x m
  have HB := Lib.hid hb
  have H1 := Lib.hid b1
  have H2 := Lib.hid b2
  have H3 := Lib.hid b3
  have HM := Lib.hid (fun W => may_any x m hA hB W)
  have HMO := Lib.hid (fun h : mayM x m = true => mayM_mode h)
  have HT := Lib.hid (hT.up hb)
  have HG := Lib.hid (hg.below hb)
  obtain ⟨c0, c1, c2, c3⟩ := blk36 b2
  have d0 := b3.cell 0
  simp only [List.getElem?_toArray, List.getElem?_cons_zero] at d0
  unfold hasM
  have HS := Lib.hid (fun (h : mayM x m = true) (W' : World) (hW' : Below W.heap.size W W') => some_any 45 (Or.inr (Or.inl rfl)) #[.pointer (some ⟨w.heap.size, 0, none⟩), .pointer (some ⟨w.heap.size + 1 + 1, 0, none⟩), .pointer (some ⟨w.heap.size + 1, 0, none⟩)] (hasP t x m) g A c ls W' (HT.out.up hW')
    (fun k l b hl e W2 hW2 => hasP_any t _ _ _ x m (mayM_mode h) l (HT.out.ok l (List.mem_of_getElem? hl)) b _ W2 (HG.out.below (below_trans hW' hW2)) (by
      obtain ⟨b2, e2, hc⟩ := HT.out.row k l hl
      obtain rfl : b2 = b := by rw [e2] at e; injection e with e; injection e
      exact (hc.up hW').up hW2) ((H1.out.below (below_trans hW' hW2) H1.out.lt).cell 0) ((H3.out.below (below_trans hW' hW2) H3.out.lt).cell 0) (H2.out.below (below_trans hW' hW2) H2.out.lt)))
  generalize ls.any (hasP t x m) = r at HS ⊢
  obtain ⟨xr, xi, xa, xb⟩ := x
  generalize mayM _ _ = my at HM HS HMO ⊢
  simp only [Th.agg, box36, tcs] at hW HM c0 c1 c2 c3 ⊢
  clear hb b1 b2 b3 hT hg hA hB
  cases my
  · go_enter Tryd.func21, Tryd.ntmps21
    go_upto_region 1 with fail
    clear hW
    go_wp2_with (go_at_call 41; with_reducible refine (HM.out _).mono ?_; rintro e w1 ⟨rfl, hb1⟩; have HB1 := Lib.hid hb1; clear hb1)
    go_ret
    exact ⟨rfl, below_trans HB.out HB1.out⟩
  · have HS' := Lib.hid (HS.out rfl)
    clear HS HMO
    go_enter Tryd.func21, Tryd.ntmps21
    go_upto_region 1 with fail
    clear hW
    go_wp2_with (first
      | (go_at_call 41; with_reducible refine (HM.out _).mono ?_; rintro e w1 ⟨rfl, hb1⟩; have HB1 := Lib.hid hb1; clear hb1)
      | (go_at_call 31; with_reducible refine (orNone_some _ _).mono ?_; rintro e w2 ⟨rfl, rfl⟩)
      | (go_at_call 42; with_reducible refine (HS'.out _ HB1.out).mono ?_; rintro e w3 ⟨rfl, hb3⟩; have HB3 := Lib.hid hb3; clear hb3))
    go_ret
    exact ⟨by simp, below_trans (below_trans HB.out HB1.out) HB3.out⟩
end Go.Proofs.YtlblgfpafdfilaaDoor
