/-
  THE WALK OF Decode.
-/
import Derived.Test.YtiilhnedflmgoaaWalkO
namespace Go.Proofs.Ytiilhnedflmgoaa
open Go.RowKit Go.Sort

/-- what Decode answers -/
def Dec (w : World) (cs : List C) (s : ByteArray) (e : Ending) (w' : World) : Prop := ∃ v, e = .returned (.tuple #[v, .int .i64 (decX cs s)]) ∧ OwnV w w' v (decV cs s)
theorem Dec.cols {w w' : World} {cs : List C} {s : ByteArray} (h : mayC cs = false) (hb : Below w.heap.size w w') : Dec w cs s (.returned (.tuple #[.slice none 0 0, .int .i64 1])) w' := by
  obtain ⟨a, b⟩ := dec_cols (s := s) h
  refine ⟨_, by rw [a], ?_⟩
  rw [b]
  exact OwnV.nil_at hb
theorem Dec.no {w w' : World} {cs : List C} {s : ByteArray} (h : mayC cs = true) (h2 : decO cs s = none) (hb : Below w.heap.size w w') : Dec w cs s (.returned (.tuple #[.slice none 0 0, .int .i64 5])) w' := by
  obtain ⟨a, b⟩ := dec_none h h2
  refine ⟨_, by rw [a], ?_⟩
  rw [b]
  exact OwnV.nil_at hb
theorem Dec.yes {w w' : World} {cs : List C} {s : ByteArray} {r : List V} {v : Value} (h : mayC cs = true) (h2 : decO cs s = some r) (ho : OwnV w w' v r) : Dec w cs s (.returned (.tuple #[v, .int .i64 0])) w' := by
  obtain ⟨a, b⟩ := dec_some h h2
  refine ⟨_, by rw [a], ?_⟩
  rw [b]
  exact ho
set_option maxRecDepth 100000 in
set_option maxHeartbeats 8000000 in
theorem decode_any (A : Option Addr) (n c : Nat) (cs : List C) (s : ByteArray) (w : World) (ha : RC w A n cs) (hnc : n ≤ c) (hs : s.size ≤ 9223372036854775807) :
    Calls Try.prog 19 #[.slice A n c, .string s] w (Dec w cs s) := by
  have hlc := Lib.hid ha.1
  have HC := Lib.hid ha
  have HM := Lib.hid (mayC_any A n c cs w ha hnc)
  clear ha
  cases em : mayC cs with
  | false =>
    have EM := Lib.hid em
    rw [em] at HM
    clear em
    go_enter Try.func19, Try.ntmps19
    go_wp2_with fail
    refine HM.out.mono ?_
    rintro e w1 ⟨rfl, hb1⟩
    have HB1 := Lib.hid hb1
    clear hb1
    go_wp2
    go_ret2
    exact Dec.cols EM.out HB1.out
  | true =>
    have EM := Lib.hid em
    rw [em] at HM
    have hn16 : n ≤ 16 := by
      have := (mayC_iff cs).1 em
      rw [hlc.out] at this
      exact this.2.1
    clear em
    by_cases h160 : 160 < s.size
    · have hd : decide ((s.size : Int) > 160) = true := decide_eq_true (by omega)
      have HN := Lib.hid (decO_long (cs := cs) h160)
      clear h160
      go_enter Try.func19, Try.ntmps19
      go_wp2_with fail
      refine HM.out.mono ?_
      rintro e w1 ⟨rfl, hb1⟩
      have HB1 := Lib.hid hb1
      clear hb1
      go_wp2
      go_ret2
      exact Dec.no EM.out HN.out HB1.out
    · have hd : decide ((s.size : Int) > 160) = false := decide_eq_false (by omega)
      go_enter Try.func19, Try.ntmps19
      go_wp2_with fail
      refine HM.out.mono ?_
      rintro e w1 ⟨rfl, hb1⟩
      have HB1 := Lib.hid hb1
      have hsz1 := hb1.size
      obtain ⟨cc, w2, hcv, hb2, hsz2, hbb⟩ := conv_bytes w1 s
      have HB2 := Lib.hid (below_trans hb1 hb2)
      have hrb := hbb.rb (T := fun _ => True) trivial
      rw [sb_len] at hrb
      have HRN := Lib.hid (newReader_any w2 _ _ s.size cc (sb s) hrb (by omega))
      clear hb1 hb2 hbb hrb HM HB1
      go_wp2_with fail
      refine HRN.out.mono ?_
      rintro e w3 ⟨g, rfl, hrd, hb3⟩
      have hsz3 := hb3.size
      have HB3 := Lib.hid (below_trans HB2.out hb3)
      have HRE := Lib.hid (read_any w w3 _ g (sb s) A n c cs HC.out HB3.out (fun b h => by omega) hrd EM.out)
      simp only [ptr, Option.map] at HRE ⊢
      clear hrd hb3 HRN hcv
      go_wp2_with fail
      refine HRE.out.mono ?_
      rintro e w4 ⟨hb4, hcase⟩
      have HB4 := Lib.hid hb4
      have hsz4 := hb4.size
      clear HRE hb4
      rcases hcase with ⟨rfl, hwhy⟩ | ⟨v, row, ok, l', rfl, hrow, hrd, hml, hbe, hst⟩
      · have HN : Hid (decO cs s = none) := by
          rcases hwhy with hw | hw
          · rw [sb_len] at hw
            exact decO_short hw
          · exact decO_beyond hw
        clear hwhy
        go_wp2
        go_ret2
        exact Dec.no EM.out HN.out HB4.out
      · have HROW := Lib.hid hrow
        have HGO : Hid (decO cs s = decR cs (sb s)) := decO_go h160 (by rw [← sb_len]; omega) hbe
        have HST := Lib.hid hst.done
        have HEN := Lib.hid (end_any w4 _ (some g) ok l' hrd)
        have hlrow := hrow.len
        rw [hlc.out] at hlrow
        have hw34 : w3.heap.size ≤ w4.heap.size ∨ True := Or.inr trivial
        clear hrow hrd hml hbe hst h160 hw34
        simp only [ptr, Option.map] at HEN
        rw [hlc.out] at HROW
        obtain ⟨A4, c4, rfl, _, _, _, hrv4⟩ := HROW.out.reads (by omega)
        clear hrv4
        cases hoe : (ok && l'.isEmpty) with
        | false =>
          rw [hoe] at HEN
          simp only [errOf] at HEN
          have HN : Hid (decO cs s = none) := by
            show _ = _
            rw [HGO.out]
            rcases HST.out with ⟨rfl, h2⟩ | ⟨h2, _⟩
            · exact decR_left h2 (by intro e; rw [e] at hoe; simp at hoe)
            · exact decR_none h2
          clear hoe
          go_wp2_with fail
          refine HEN.out.mono ?_
          rintro e w5 ⟨rfl, hrd5, hfr5⟩
          have HB5 := Lib.hid (HB4.out.trans (hfr5.below (fun b h => by omega) hsz4))
          clear hrd5 hfr5
          go_wp2
          go_ret2
          exact Dec.no EM.out HN.out HB5.out
        | true =>
          rw [hoe] at HEN
          simp only [errOf] at HEN
          have hle : ok = true ∧ l' = [] := by simpa using hoe
          obtain ⟨rfl, rfl⟩ := hle
          clear hoe
          go_wp2_with fail
          refine HEN.out.mono ?_
          rintro e w5 ⟨rfl, hrd5, hfr5⟩
          have HB5 := Lib.hid (HB4.out.trans (hfr5.below (fun b h => by omega) hsz4))
          have hrow5 := HROW.out.keep hfr5 (fun b h1 h2 => by omega)
          have HROW5 := Lib.hid hrow5
          obtain ⟨A5, c5, e5, _, _, _, hrv5⟩ := hrow5.reads (by omega)
          injection e5 with e5 e6 e7
          subst e5 e7
          have HF := Lib.hid (fits_any A n c cs A4 n c4 row w5 (HC.out.below HB5.out) hrv5 hnc)
          clear hrd5 hfr5 hrow5 hrv5 HEN
          by_cases hf0 : fitsE cs row = 0
          · have HN : Hid (decO cs s = some row) := by
              show _ = _
              rw [HGO.out]
              rcases HST.out with ⟨_, h2⟩ | ⟨_, h3⟩
              · exact decR_some h2 hf0
              · rcases h3 with h3 | h3
                · cases h3
                · exact absurd h3 (fits_not_bad hf0)
            rw [hf0] at HF
            clear hf0
            go_wp2_with fail
            refine HF.out.mono ?_
            rintro e w6 ⟨rfl, hb6⟩
            have HO : Hid (OwnV w w6 (.slice A4 n c4) row) := by
              refine ⟨?_, below_trans HB5.out hb6⟩
              rw [hlrow]
              exact (HROW5.out.mono fun b _ h => by omega).up5 hb6
            clear hb6
            go_wp2
            go_ret2
            exact Dec.yes EM.out HN.out HO.out
          · have HN : Hid (decO cs s = none) := by
              show _ = _
              rw [HGO.out]
              rcases HST.out with ⟨_, h2⟩ | ⟨h2, _⟩
              · exact decR_unfit h2 hf0
              · exact decR_none h2
            generalize fitsE cs row = z at *
            have hz1 : (z == 0) = false := beq_false_of_ne hf0
            have hz2 : (z != 0) = true := bne_iff_ne.2 hf0
            clear hf0
            go_wp2_with fail
            refine HF.out.mono ?_
            rintro e w6 ⟨rfl, hb6⟩
            have HB6 := Lib.hid (below_trans HB5.out hb6)
            clear hb6
            go_wp2
            go_ret2
            exact Dec.no EM.out HN.out HB6.out
end Go.Proofs.Ytiilhnedflmgoaa
