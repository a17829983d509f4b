/-
  THE WALK OF Print, of every value.
-/
import Derived.Test.YtjfpkjpicalfmaaDoorBackMath
import Derived.Test.YtjfpkjpicalfmaaDoorWalkP
namespace Go.Proofs.YtjfpkjpicalfmaaDoor
open Go.RowKit Go.Sort
attribute [local go_sem high] run_eq23 run_neq23 run_eq9

/-- what the library's own table reads as -/
def Pw (w : World) : Prop := Lib.TabIs Tryd.prog w "internal/strconv.uint64pow10" .u64 Lib.pow10Tab
theorem tab_below {P : Program} {w w' : World} {name : String} {k : IntKind} {zs : List Int} (h : Lib.TabIs P w name k zs) (hb : Below w.heap.size w w') : Lib.TabIs P w' name k zs := by
  unfold Lib.TabIs World.var? at *
  cases hg : P.globalNamed name with
  | none => simp [hg] at h
  | some g =>
    simp only [hg, Option.bind_some] at h ⊢
    have hlt : g < w.heap.size := by
      rcases Nat.lt_or_ge g w.heap.size with h' | h'
      · exact h'
      · rw [Array.getElem?_eq_none h'] at h; simp at h
    rw [hb.block g hlt]
    exact h
theorem format_any (n : Int) (h : In64 n) (w : World) (hp : Pw w) : Calls Tryd.prog 77 #[.int .i64 n, .int .i64 10] w fun e w' => e = .returned (.string ⟨(Lib.itoa n).toArray⟩) ∧ Below w.heap.size w w' := by
  refine (Tryd.strconv_FormatInt_10 n h.1 h.2 w hp).mono ?_
  rintro e w' ⟨rfl, k, os, rfl⟩
  have h1 : Below w.heap.size w (w.drewN k) := below_drewN (Below.refl w.heap.size w) k
  exact ⟨rfl, h1.trans ⟨rfl, rfl, rfl, by simp [grow], fun j hj => by
    simp [grow, Array.getElem?_append]
    intro h2
    omega⟩⟩
theorem fbool_any (q : Bool) (w : World) : Calls Tryd.prog 76 #[.bool q] w fun e w' => e = .returned (.string ⟨(Lib.formatBool q).toArray⟩) ∧ Below w.heap.size w w' := by
  refine (Tryd.strconv_FormatBool q w).mono ?_
  rintro e w' ⟨rfl, rfl⟩
  exact ⟨rfl, Below.refl _ _⟩

set_option maxRecDepth 100000 in
set_option maxHeartbeats 2000000 in
theorem print_any (v : V) (hs : v.s.size ≤ 9223372036854775807) (hn : In64 v.n) (w : World) (hw : Sm w) (hp : Pw w) :
    Calls Tryd.prog 40 #[.agg #[.int .i64 v.k, .int .i64 v.n, .string v.s]] w fun e w' => e = .returned (.tuple #[.string (printB v), .int .i64 (printE v)]) ∧ Below w.heap.size w w' := by
  have HC := Lib.hid (may_any v.k v.n v.s hs)
  cases hm : v.may
  · have e1 : printB v = ⟨#[]⟩ := by unfold printB; rw [hm]; rfl
    have e2 : printE v = 5 := by unfold printE; rw [hm]; rfl
    rw [e1, e2]
    obtain ⟨k, n, s⟩ := v
    have hm' : may k n s = false := hm
    simp only at HC ⊢
    rw [hm'] at HC
    clear hm hm' e1 e2 hs hn hw hp
    go_enter Tryd.func40, Tryd.ntmps40
    go_wp2_with fail
    refine (HC.out _).mono ?_
    rintro e w1 ⟨rfl, hb1⟩
    obtain ⟨c0, c1, c2⟩ := (Box.new w k n s).up hb1
    have HB1 := Lib.hid (((Below.refl _ _).alloc (Nat.le_refl _) _).trans (hb1.mono (by simp)) : Below w.heap.size w w1)
    clear hb1
    go_wp2
    go_ret2
    exact ⟨rfl, HB1.out⟩
  · have e2 : printE v = 0 := by unfold printE; rw [hm]; rfl
    have e1 : printB v = (if v.k = 0 then bNull else if v.k = 3 then ⟨(Lib.formatBool (veq v.k v.n v.s 3 1 ⟨#[]⟩)).toArray⟩ else if v.k = 1 then ⟨(Lib.itoa v.n).toArray⟩ else (⟨#[39]⟩ ++ esc v.s) ++ ⟨#[39]⟩) := by unfold printB; rw [hm]; rfl
    have hk := may_kind (show may v.k v.n v.s = true from hm)
    rw [e1, e2]
    clear e1 e2
    have hsz := may_size hm
    obtain ⟨k, n, s⟩ := v
    have hm' : may k n s = true := hm
    simp only at HC hk hn hsz ⊢
    rw [hm'] at HC
    have HW := Lib.hid hw
    have HP := Lib.hid hp
    have HI := Lib.hid (fun W h => format_any n hn W h)
    by_cases h0 : k = 0
    · subst h0
      rw [if_pos rfl]
      clear hm hm' hs hn hw hp hk hsz HI
      go_enter Tryd.func40, Tryd.ntmps40
      go_wp2_with fail
      refine (HC.out _).mono ?_
      rintro e w1 ⟨rfl, hb1⟩
      obtain ⟨c0, c1, c2⟩ := (Box.new w 0 n s).up hb1
      have HB1 := Lib.hid (((Below.refl _ _).alloc (Nat.le_refl _) _).trans (hb1.mono (by simp)) : Below w.heap.size w w1)
      clear hb1
      go_wp2
      go_ret2
      exact ⟨rfl, HB1.out⟩
    · rw [if_neg h0]
      by_cases h3 : k = 3
      · subst h3
        rw [if_pos rfl]
        clear hm hm' hs hn hw hp hk hsz HI h0
        have hbt : veq 3 n s 3 1 ⟨#[]⟩ = veq 3 n s 3 (bit true) ⟨#[]⟩ := rfl
        rw [hbt]
        clear hbt
        go_enter Tryd.func40, Tryd.ntmps40
        go_wp2_with fail
        refine (HC.out _).mono ?_
        rintro e w1 ⟨rfl, hb1⟩
        obtain ⟨c0, c1, c2⟩ := (Box.new w 3 n s).up hb1
        obtain ⟨g0, g1, g2⟩ := ((Box.new w 3 n s).up hb1).grown
        have HB1 := Lib.hid (((Below.refl _ _).alloc (Nat.le_refl _) _).trans (hb1.mono (by simp)) : Below w.heap.size w w1)
        clear hb1
        go_wp2_with fail
        refine wp_region_quiet_below (by kernel_rfl) (by kernel_rfl) ?_
        repeat (go_big_quiet_step (first | (go_at_call 51; exact Calls.regrown_of (ofBool_any _ _)) | (go_at_call 76; exact Calls.regrown_of (fbool_any _ _))))
        refine wpQuiet_nil ?_
        intro _ hw'
        obtain ⟨p, rfl⟩ := hw'
        go_wp2
        go_ret2
        exact ⟨rfl, below_trans HB1.out (below_regrown _ _ _)⟩
      · rw [if_neg h3]
        by_cases h1 : k = 1
        · subst h1
          rw [if_pos rfl]
          clear hm hm' hs hn hw hp hk hsz h0 h3
          generalize (⟨(Lib.itoa n).toArray⟩ : ByteArray) = t at HI ⊢
          go_enter Tryd.func40, Tryd.ntmps40
          go_wp2_with fail
          refine (HC.out _).mono ?_
          rintro e w1 ⟨rfl, hb1⟩
          obtain ⟨c0, c1, c2⟩ := (Box.new w 1 n s).up hb1
          have HB1 := Lib.hid (((Below.refl _ _).alloc (Nat.le_refl _) _).trans (hb1.mono (by simp)) : Below w.heap.size w w1)
          clear hb1
          go_wp2_with fail
          refine (HI.out _ (tab_below HP.out HB1.out)).mono ?_
          rintro e w2 ⟨rfl, hb2⟩
          have HB2 := Lib.hid (below_trans HB1.out hb2)
          clear hb2
          go_wp2
          go_ret2
          exact ⟨rfl, HB2.out⟩
        · rw [if_neg h1]
          have h2 : k = 2 := by omega
          subst h2
          have h0' : n = 0 := may_n hm' rfl
          subst h0'
          exact print_text s hsz w hw
end Go.Proofs.YtjfpkjpicalfmaaDoor
