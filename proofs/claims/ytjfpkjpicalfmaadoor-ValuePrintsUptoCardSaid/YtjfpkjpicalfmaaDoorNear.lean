/-
  THE WALK OF nearest, of every text that is not too long.
-/
import Derived.Test.YtjfpkjpicalfmaaDoorPrint
namespace Go.Proofs.YtjfpkjpicalfmaaDoor
open Go.RowKit Go.Sort
attribute [local go_sem high] run_eq23 run_neq23 run_eq9

/-- the library's own two errors -/
def Er (w : World) : Prop := (∃ tp p, w.var? Tryd.prog "strconv.ErrSyntax" = some #[.iface tp p]) ∧ (∃ tp p, w.var? Tryd.prog "strconv.ErrRange" = some #[.iface tp p])
theorem var_below {w w' : World} {name : String} {x : Array Value} (h : w.var? Tryd.prog name = some x) (hb : Below w.heap.size w w') : w'.var? Tryd.prog name = some x := by
  unfold World.var? at *
  cases hg : Tryd.prog.globalNamed name with
  | none => simp [hg] at h
  | some g =>
    simp only [hg, Option.bind_some] at h ⊢
    have hlt : g < w.heap.size := by
      rcases Nat.lt_or_ge g w.heap.size with h' | h'
      · exact h'
      · rw [Array.getElem?_eq_none h'] at h; simp at h
    rw [hb.block g hlt]
    exact h
theorem Er.below {w w' : World} (h : Er w) (hb : Below w.heap.size w w') : Er w' := by
  obtain ⟨⟨tp, p, h1⟩, ⟨tq, q, h2⟩⟩ := h
  exact ⟨⟨tp, p, var_below h1 hb⟩, ⟨tq, q, var_below h2 hb⟩⟩
theorem cut_any (s : ByteArray) (w : World) : Calls Tryd.prog 97 #[.string s, .string ⟨#[39]⟩] w fun e w' => e = .returned (.tuple #[.string ⟨(Lib.trimPrefix s.data.toList [39]).toArray⟩, .bool (Lib.hasPrefix s.data.toList [39])]) ∧ Below w.heap.size w w' := by
  refine (Tryd.strings_CutPrefix s ⟨#[39]⟩ w).mono ?_
  rintro e w' ⟨rfl, rfl⟩
  exact ⟨rfl, Below.refl _ _⟩
theorem trim_any (s : ByteArray) (hs : s.size ≤ 9223372036854775807) (w : World) : Calls Tryd.prog 98 #[.string s, .string ⟨#[39]⟩] w fun e w' => e = .returned (.string ⟨(Lib.trimSuffix s.data.toList [39]).toArray⟩) ∧ Below w.heap.size w w' := by
  refine (Tryd.strings_TrimSuffix s ⟨#[39]⟩ w hs).mono ?_
  rintro e w' ⟨rfl, rfl⟩
  exact ⟨rfl, Below.refl _ _⟩
theorem unq_any (s : ByteArray) (hs : s.size ≤ 1048576) (w : World) (hw : Sm w) : Calls Tryd.prog 78 #[.string s, .string ⟨#[39, 39]⟩, .string ⟨#[39]⟩] w fun e w' => e = .returned (.string ⟨(Lib.replaceAll s.data.toList [39, 39] [39]).toArray⟩) ∧ Below w.heap.size w w' := by
  obtain ⟨m, hm⟩ := hw
  have hc : Lib.countB s q2 * q2.size ≤ s.size := Lib.countB_mul_le q2 (by decide) s.size s (Nat.le_refl _)
  have h1 : q1.size = 1 := rfl
  have h2 : q2.size = 2 := rfl
  exact Tryd.strings_ReplaceAll s q2 q1 m w (by omega) hm (by rw [h2]; omega) (by rw [h2] at hc; rw [h1]; omega)
theorem parse_ok (s : ByteArray) (hs : s.size ≤ 1048576) (v : Int) (h : Lib.parseIntB 64 s.data.toList = .ok v) (w : World) :
    Calls Tryd.prog 99 #[.string s, .int .i64 10, .int .i64 64] w fun e w' => e = .returned (.tuple #[.int .i64 v, .nilIface]) ∧ Below w.heap.size w w' := by
  refine (Tryd.strconv_ParseInt_10_at64_ok s (by omega) v h w).mono ?_
  rintro e w' ⟨rfl, rfl | ⟨t, rfl⟩⟩
  · exact ⟨rfl, Below.refl _ _⟩
  · exact ⟨rfl, Lib.bytesWorld_below _ _ _⟩
theorem parse_bad (s : ByteArray) (hs : s.size ≤ 1048576) (h : ∀ v, Lib.parseIntB 64 s.data.toList ≠ .ok v) (w : World) (hE : Er w) :
    Calls Tryd.prog 99 #[.string s, .int .i64 10, .int .i64 64] w fun e w' => ∃ x N, e = .returned (.tuple #[.int .i64 x, .iface 118 (.pointer (some ⟨N, 0, none⟩))]) ∧ Below w.heap.size w w' := by
  obtain ⟨⟨tp, p, h1⟩, ⟨tq, q, h2⟩⟩ := hE
  cases hp : Lib.parseIntB 64 s.data.toList with
  | ok v => exact absurd hp (h v)
  | range =>
    refine (Any.strconv_ParseInt_10_at64_range_var Tryd.laysC174 s (by omega) hp tq q w h2).mono ?_
    rintro e w' ⟨N, rfl, _, _, hb⟩
    exact ⟨_, N, rfl, hb⟩
  | _ =>
    refine (Any.strconv_ParseInt_10_at64_syntax_var Tryd.laysC174 s (by omega) hp tp p w h1).mono ?_
    rintro e w' ⟨N, rfl, _, _, hb⟩
    exact ⟨_, N, rfl, hb⟩
theorem trimP_le (l : List UInt8) : (Lib.trimPrefix l [39]).length ≤ l.length := by
  unfold Lib.trimPrefix
  split <;> simp
theorem trimS_le (l : List UInt8) : (Lib.trimSuffix l [39]).length ≤ l.length := by
  unfold Lib.trimSuffix
  split <;> simp
set_option maxRecDepth 100000 in
set_option maxHeartbeats 4000000 in
theorem near_any (s : ByteArray) (hs : s.size ≤ 1048576) (w : World) (hw : Sm w) (he : Er w) :
    Calls Tryd.prog 80 #[.string s] w fun e w' => e = .returned (.agg #[.int .i64 (nearV s).k, .int .i64 (nearV s).n, .string (nearV s).s]) ∧ Below w.heap.size w w' := by
  have HW := Lib.hid hw
  have HE := Lib.hid he
  clear hw he
  cases hF : seq s bFalse
  · cases hT : seq s bTrue
    · cases hP : Lib.hasPrefix s.data.toList [39]
      · have hv : nearV s = nearI s.data.toList := by unfold nearV; rw [hF, hT, hP]; rfl
        rw [hv]
        have C1 := Lib.hid (cut_any s)
        rw [hP] at C1
        by_cases hok : ∃ v, Lib.parseIntB 64 s.data.toList = .ok v
        · obtain ⟨v, hv2⟩ := hok
          have C2 := Lib.hid (parse_ok s hs v hv2)
          have hv3 : nearI s.data.toList = ⟨1, v, ⟨#[]⟩⟩ := by unfold nearI; rw [hv2]
          rw [hv3]
          clear hv hv2 hv3 hs hP
          generalize (⟨(Lib.trimPrefix s.data.toList [39]).toArray⟩ : ByteArray) = t at C1
          unfold bFalse at hF
          unfold bTrue at hT
          go_enter Tryd.func80, Tryd.ntmps80
          go_wp2_with fail
          refine (C1.out _).mono ?_
          rintro e w1 ⟨rfl, hb1⟩
          have Z1 := (Zero.new w).below hb1 (by simp)
          have HB1 := Lib.hid (((Below.refl w.heap.size w).alloc (Nat.le_refl _) (.cells #[.int .i64 0, .int .i64 0, .string ⟨#[]⟩] 23)).trans (hb1.mono (by simp)))
          clear hb1
          go_wp2_with fail
          refine (C2.out _).mono ?_
          rintro e w2 ⟨rfl, hb2⟩
          have Z2 := Z1.below hb2 Z1.lt
          have HB2 := Lib.hid (below_trans HB1.out hb2)
          clear hb2 Z1
          go_wp2_with fail
          refine (ofInt_any _ _).mono ?_
          rintro e w3 ⟨rfl, hb3⟩
          have Z3 := Z2.below hb3 Z2.lt
          have HB3 := Lib.hid (below_trans HB2.out hb3)
          obtain ⟨⟨r0, r1, r2⟩, f0, f1, f2⟩ := Z3.facts
          clear hb3 Z2 Z3
          go_wp2
          refine bodyPost_ret (v := .agg #[.int .i64 1, .int .i64 v, .string ⟨#[]⟩]) (by simp [results, Tryd.results80, go_sem, r0, r1, r2]) rfl ?_
          refine ⟨rfl, ?_⟩
          repeat (first | exact HB3.out | refine below_store ?_ (by omega) _)
        · have hno : ∀ v, Lib.parseIntB 64 s.data.toList ≠ .ok v := fun v h => hok ⟨v, h⟩
          have C2 := Lib.hid (fun W h => parse_bad s hs hno W h)
          have hv3 : nearI s.data.toList = ⟨0, 0, ⟨#[]⟩⟩ := by
            unfold nearI
            cases h : Lib.parseIntB 64 s.data.toList with
            | ok v => exact absurd h (hno v)
            | range => rfl
            | _ => rfl
          rw [hv3]
          clear hv hno hok hv3 hs hP
          generalize (⟨(Lib.trimPrefix s.data.toList [39]).toArray⟩ : ByteArray) = t at C1
          unfold bFalse at hF
          unfold bTrue at hT
          go_enter Tryd.func80, Tryd.ntmps80
          go_wp2_with fail
          refine (C1.out _).mono ?_
          rintro e w1 ⟨rfl, hb1⟩
          have Z1 := (Zero.new w).below hb1 (by simp)
          have HB1 := Lib.hid (((Below.refl w.heap.size w).alloc (Nat.le_refl _) (.cells #[.int .i64 0, .int .i64 0, .string ⟨#[]⟩] 23)).trans (hb1.mono (by simp)))
          clear hb1
          go_wp2_with fail
          refine (C2.out _ (HE.out.below HB1.out)).mono ?_
          rintro e w2 ⟨x, N, rfl, hb2⟩
          have Z2 := Z1.below hb2 Z1.lt
          have HB2 := Lib.hid (below_trans HB1.out hb2)
          obtain ⟨⟨r0, r1, r2⟩, f0, f1, f2⟩ := Z2.facts
          clear hb2 Z1 Z2
          go_wp2
          refine bodyPost_ret (v := .agg #[.int .i64 0, .int .i64 0, .string ⟨#[]⟩]) (by simp [results, Tryd.results80, go_sem, r0, r1, r2]) rfl ?_
          refine ⟨rfl, ?_⟩
          repeat (first | exact HB2.out | refine below_store ?_ (by omega) _)
      · have hv : nearV s = ⟨2, 0, nearT s.data.toList⟩ := by unfold nearV; rw [hF, hT, hP]; rfl
        rw [hv]
        have C1 := Lib.hid (cut_any s)
        rw [hP] at C1
        have z0 : s.data.toList.length = s.size := by rw [Array.length_toList]; rfl
        have z1 := trimP_le s.data.toList
        have z2 := trimS_le (Lib.trimPrefix s.data.toList [39])
        have C2 := Lib.hid (trim_any ⟨(Lib.trimPrefix s.data.toList [39]).toArray⟩ (by show (Lib.trimPrefix s.data.toList [39]).toArray.size ≤ _; simp; omega))
        have C3 := Lib.hid (fun W h => unq_any ⟨(Lib.trimSuffix (Lib.trimPrefix s.data.toList [39]) [39]).toArray⟩ (by show (Lib.trimSuffix (Lib.trimPrefix s.data.toList [39]) [39]).toArray.size ≤ _; simp; omega) W h)
        unfold nearT
        simp only at C2 C3
        clear hv hP hs z0 z1 z2
        generalize (⟨(Lib.replaceAll (Lib.trimSuffix (Lib.trimPrefix s.data.toList [39]) [39]) [39, 39] [39]).toArray⟩ : ByteArray) = t3 at C3 ⊢
        generalize (⟨(Lib.trimSuffix (Lib.trimPrefix s.data.toList [39]) [39]).toArray⟩ : ByteArray) = t2 at C2 C3
        generalize (⟨(Lib.trimPrefix s.data.toList [39]).toArray⟩ : ByteArray) = t1 at C1 C2
        unfold bFalse at hF
        unfold bTrue at hT
        go_enter Tryd.func80, Tryd.ntmps80
        go_wp2_with fail
        refine (C1.out _).mono ?_
        rintro e w1 ⟨rfl, hb1⟩
        have Z1 := (Zero.new w).below hb1 (by simp)
        have HB1 := Lib.hid (((Below.refl w.heap.size w).alloc (Nat.le_refl _) (.cells #[.int .i64 0, .int .i64 0, .string ⟨#[]⟩] 23)).trans (hb1.mono (by simp)))
        clear hb1
        go_wp2_with fail
        refine (C2.out _).mono ?_
        rintro e w2 ⟨rfl, hb2⟩
        have Z2 := Z1.below hb2 Z1.lt
        have HB2 := Lib.hid (below_trans HB1.out hb2)
        clear hb2 Z1
        go_wp2_with fail
        refine (C3.out _ (HW.out.below HB2.out)).mono ?_
        rintro e w3 ⟨rfl, hb3⟩
        have Z3 := Z2.below hb3 Z2.lt
        have HB3 := Lib.hid (below_trans HB2.out hb3)
        clear hb3 Z2
        go_wp2_with fail
        refine (ofText_any _ _).mono ?_
        rintro e w4 ⟨rfl, hb4⟩
        have Z4 := Z3.below hb4 Z3.lt
        have HB4 := Lib.hid (below_trans HB3.out hb4)
        obtain ⟨⟨r0, r1, r2⟩, f0, f1, f2⟩ := Z4.facts
        clear hb4 Z3 Z4
        go_wp2
        refine bodyPost_ret (v := .agg #[.int .i64 2, .int .i64 0, .string t3]) (by simp [results, Tryd.results80, go_sem, r0, r1, r2]) rfl ?_
        refine ⟨rfl, ?_⟩
        repeat (first | exact HB4.out | refine below_store ?_ (by omega) _)
    · have hv : nearV s = ⟨3, bit true, ⟨#[]⟩⟩ := by unfold nearV; rw [hF, hT]; rfl
      rw [hv]
      clear hv hs
      unfold bFalse at hF
      unfold bTrue at hT
      go_enter Tryd.func80, Tryd.ntmps80
      go_wp2_with fail
      refine (ofBool_any _ _).mono ?_
      rintro e w1 ⟨rfl, hb1⟩
      have Z1 := (Zero.new w).below hb1 (by simp)
      have HB1 := Lib.hid (((Below.refl w.heap.size w).alloc (Nat.le_refl _) (.cells #[.int .i64 0, .int .i64 0, .string ⟨#[]⟩] 23)).trans (hb1.mono (by simp)))
      obtain ⟨⟨r0, r1, r2⟩, f0, f1, f2⟩ := Z1.facts
      have hz1 := Z1.lt
      clear hb1 Z1
      go_wp2
      refine bodyPost_ret (v := .agg #[.int .i64 3, .int .i64 (bit true), .string ⟨#[]⟩]) (by simp [results, Tryd.results80, go_sem, r0, r1, r2]) rfl ?_
      refine ⟨rfl, ?_⟩
      repeat (first | exact HB1.out | refine below_store ?_ (by omega) _)
  · have hv : nearV s = ⟨3, bit (seq s bTrue), ⟨#[]⟩⟩ := by unfold nearV; rw [hF]; rfl
    rw [hv]
    clear hv hs
    unfold bFalse at hF
    unfold bTrue
    generalize hT : seq s ⟨#[116, 114, 117, 101]⟩ = q
    go_enter Tryd.func80, Tryd.ntmps80
    go_wp2_with fail
    refine (ofBool_any _ _).mono ?_
    rintro e w1 ⟨rfl, hb1⟩
    have Z1 := (Zero.new w).below hb1 (by simp)
    have HB1 := Lib.hid (((Below.refl w.heap.size w).alloc (Nat.le_refl _) (.cells #[.int .i64 0, .int .i64 0, .string ⟨#[]⟩] 23)).trans (hb1.mono (by simp)))
    obtain ⟨⟨r0, r1, r2⟩, f0, f1, f2⟩ := Z1.facts
    have hz1 := Z1.lt
    clear hb1 Z1
    go_wp2
    refine bodyPost_ret (v := .agg #[.int .i64 3, .int .i64 (bit q), .string ⟨#[]⟩]) (by simp [results, Tryd.results80, go_sem, r0, r1, r2]) rfl ?_
    refine ⟨rfl, ?_⟩
    repeat (first | exact HB1.out | refine below_store ?_ (by omega) _)
end Go.Proofs.YtjfpkjpicalfmaaDoor
