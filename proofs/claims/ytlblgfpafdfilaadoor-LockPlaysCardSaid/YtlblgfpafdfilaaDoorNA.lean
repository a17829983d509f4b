/-
STAGE 12: played.
-/
import Derived.Test.YtlblgfpafdfilaaDoorMG
import Derived.Test.YtlblgfpafdfilaaDoorMH
import Derived.Test.YtlblgfpafdfilaaDoorMB
namespace Go.Proofs.YtlblgfpafdfilaaDoor
open Go.RowKit Go.Sort

/-- a table behind one act more -/
def actM (ls : List LK) (v : AV) : List LK := if v.d = 0 then (askM v.t v.x v.m ls).2 else if v.d = 1 then (releaseM v.t ls).1 else ls
def playM (l : List AV) : List LK := l.foldl actM []
theorem fine_step {ls : List LK} (h : Fine ls) (v : AV) : Fine (actM ls v) := by
  unfold actM
  split
  · exact (fine_ask h _ _ _).1
  · split
    · exact fine_release h _
    · exact h
theorem fine_play (l : List AV) : Fine (playM l) := by
  have key : ∀ (l : List AV) (ls : List LK), Fine ls → Fine (l.foldl actM ls) := by
    intro l
    induction l with
    | nil => intro ls h; exact h
    | cons v r ih => intro ls h; exact ih _ (fine_step h v)
  exact key l [] fine_nil
theorem play_take {l : List AV} {k : Nat} {v : AV} (h : l[k]? = some v) : playM (l.take (k + 1)) = actM (playM (l.take k)) v := by
  obtain ⟨hk, e⟩ := List.getElem?_eq_some_iff.1 h
  unfold playM
  rw [List.take_succ_eq_append_getElem hk, List.foldl_append, e]
  rfl
theorem askM_len (t : Nat) (x : Th) (m : Int) (ls : List LK) : (askM t x m ls).2.length ≤ ls.length + 1 := by
  unfold askM
  repeat' split
  all_goals simp [setH_len]
theorem actM_len (ls : List LK) (v : AV) : (actM ls v).length ≤ ls.length + 1 := by
  unfold actM
  split
  · exact askM_len _ _ _ _
  · split
    · unfold releaseM
      rw [(passM_len _ _).1]
      exact Nat.le_trans (List.length_filter_le _ _) (by omega)
    · omega
theorem playM_len (l : List AV) : (playM l).length ≤ l.length := by
  have key : ∀ (l : List AV) (ls : List LK), (l.foldl actM ls).length ≤ ls.length + l.length := by
    intro l
    induction l with
    | nil => intro ls; simp
    | cons v r ih => intro ls; rw [List.foldl_cons, List.length_cons]; have := ih (actM ls v); have := actM_len ls v; omega
  have := key l []
  rw [List.length_nil, Nat.zero_add] at this
  exact this
theorem As.out {w : World} {g o : Nat} {v : AV} (h : As w g o v) : w.cell? ⟨g, o + 1, none⟩ = some (.int .u32 (v.t : Int)) ∧ w.cell? ⟨g, o + 2, none⟩ = some (.bool v.x.r) ∧ w.cell? ⟨g, o + 2 + 1, none⟩ = some (.int .u32 (v.x.i : Int)) ∧ w.cell? ⟨g, o + 2 + 2, none⟩ = some (.string v.x.a) ∧ w.cell? ⟨g, o + 2 + 3, none⟩ = some (.string v.x.b) ∧ w.cell? ⟨g, o + 6, none⟩ = some (.int .i64 v.m) :=
  ⟨h.2.1, h.2.2.1, h.2.2.2.1, h.2.2.2.2.1, h.2.2.2.2.2.1, h.2.2.2.2.2.2⟩
set_option maxRecDepth 100000 in
set_option maxHeartbeats 8000000 in
theorem played_any (A : Option Addr) (n c : Nat) (l : List AV) (w : World) (h : AR w A n l) (hg : Gw w) :
    Calls Tryd.prog 23 #[.slice A n c] w fun e w' => e = .returned (.pointer (some ⟨w.heap.size, 0, none⟩)) ∧ TL w w' w.heap.size w.heap.size (playM l) := by
  have H := Lib.hid h
  obtain ⟨z, hz⟩ : ∃ z, z = w.heap.size := ⟨_, rfl⟩
  have HZ := Lib.hid hz
  have HZS := Lib.hid (show z ≤ w.heap.size by rw [hz]; exact Nat.le_refl _)
  have HN := Lib.hid ((new_any w hg.2).mono fun e w1 (h : e = .returned (.pointer (some ⟨w.heap.size, 0, none⟩)) ∧ TB w1 w.heap.size (.slice none 0 0) [] ∧ Below w.heap.size w w1) => (⟨by rw [hz]; exact h.1, by rw [hz]; exact ⟨⟨_, h.2.1, fun b e => by simp [Value.ownBlock] at e⟩, h.2.2, Nat.le_refl _, hg.below h.2.2⟩⟩ : e = .returned (.pointer (some ⟨z, 0, none⟩)) ∧ TL w w1 z z []))
  have HLE := Lib.hid h.le
  rw [← hz]
  clear h hg hz
  go_enter Tryd.func23, Tryd.ntmps23
  go_wp2_with (go_at_call 10; with_reducible refine HN.out.mono ?_; rintro e w1 ⟨rfl, h1⟩; have H1 := Lib.hid h1; clear h1)
  go_loopw [4] (fun i wr => ∃ k : Nat, k ≤ n ∧ i = .int .i64 (k : Int) ∧ TL w wr z z (playM (l.take k))) (fun i _ => n - (intOf i).toNat)
  case atStart => exact ⟨0, by omega, rfl, H1.out⟩
  case round =>
    obtain ⟨k, hk, rfl, htl⟩ := hrel
    have HTL := Lib.hid htl
    by_cases hlt : k < n
    · have hl : l[k]? = some (l[k]'(by have := H.out.len; omega)) := List.getElem?_eq_getElem _
      generalize l[k]'(by have := H.out.len; omega) = v at hl
      obtain ⟨g, o, rfl, ha⟩ := H.out.at_ k v hl
      have hv := H.out.ok v (List.mem_of_getElem? hl)
      have hgz : g < z := by rw [HZ.out]; exact ha.lt
      obtain ⟨z0, z1, z2, z3, z4, z5, z6⟩ := ha.below htl.bel hgz
      have hin : ((k : Int) < (n : Int)) := by omega
      have e1 : IntKind.i64.wrap ((k : Int) + 1) = ((k + 1 : Nat) : Int) := by rw [IntWalk.i64_in _ (by have := HLE.out; omega)]; omega
      have HAS := Lib.hid (fun W (hb : Below z w W) => (ha.below hb hgz).out)
      have HV := Lib.hid hv
      have HST := play_take hl
      have HAK := Lib.hid ((htl.up HZS.out (Below.refl _ _).drew).ask HZS.out v.t v.x v.m hv.t hv.i hv.a hv.b)
      have HRL := Lib.hid (htl.release HZS.out v.t)
      unfold actM at HST
      generalize playM (l.take k) = ls at HST HAK HRL HTL
      obtain ⟨vd, vt, ⟨xr, xi, xa, xb⟩, vm⟩ := v
      simp only [Th.agg] at z0 z1 z2 z3 z4 z5 z6 HAK HRL HST HAS
      clear htl hl hv ha
      by_cases hd : vd = 0
      · subst hd
        rw [if_pos rfl] at HST
        generalize askM vt ⟨xr, xi, xa, xb⟩ vm ls = rr at HAK HST
        obtain ⟨⟨hb, en⟩, ls2⟩ := rr
        simp only at HAK HST
        go_upto_region 7 with fail
        have z3' : wr.cell? ⟨g, o + k * 7 + 2 + 1, none⟩ = some (.int .u32 (xi : Int)) := z3
        have z4' : wr.cell? ⟨g, o + k * 7 + 2 + 2, none⟩ = some (.string xa) := z4
        have z5' : wr.cell? ⟨g, o + k * 7 + 2 + 3, none⟩ = some (.string xb) := z5
        go_region_held3 (fun w' => w'.cell? ⟨g, o + k * 7 + 1, none⟩ = some (.int .u32 (vt : Int)) ∧ w'.cell? ⟨g, o + k * 7 + 2, none⟩ = some (.bool xr) ∧ w'.cell? ⟨g, o + k * 7 + 2 + 1, none⟩ = some (.int .u32 (xi : Int)) ∧ w'.cell? ⟨g, o + k * 7 + 2 + 2, none⟩ = some (.string xa) ∧ w'.cell? ⟨g, o + k * 7 + 2 + 3, none⟩ = some (.string xb) ∧ w'.cell? ⟨g, o + k * 7 + 6, none⟩ = some (.int .i64 vm)) (first | exact ⟨by assumption, by assumption, by assumption, by assumption, by assumption, by assumption⟩ | (refine ⟨?_, ?_, ?_, ?_, ?_, ?_⟩ <;> go_simp)) (first | (go_at_call 20; with_reducible refine HAK.out.mono ?_; rintro e w3 ⟨rfl, ht3, hk3⟩; have HT3 := Lib.hid ht3; obtain ⟨y1, y2, y3, y4, y5, y6⟩ := HAS.out _ ht3.bel; clear ht3 hk3))
        clear z0 z1 z2 z3 z4 z5 z6 z3' z4' z5' y1 y2 y3 y4 y5 y6
        go_wp2_with fail
        go_roundw
        case rel => exact ⟨k + 1, by omega, by go_num, by rw [HST]; exact HT3.out⟩
        case measure => simp [intOf]; omega
      · rw [if_neg hd] at HST
        have hd0 : (vd == 0) = false := beq_eq_false_iff_ne.2 hd
        by_cases hd1 : vd = 1
        · subst hd1
          rw [if_pos rfl] at HST
          generalize releaseM vt ls = rr at HRL HST
          go_wp2_with (go_at_call 19; with_reducible refine HRL.out.mono ?_; rintro e w3 ⟨⟨vg, hev, _⟩, ht3, _⟩; subst hev; have HT3 := Lib.hid ht3; clear ht3)
          go_roundw
          case rel => exact ⟨k + 1, by omega, by go_num, by rw [HST]; exact HT3.out⟩
          case measure => simp [intOf]; omega
        · rw [if_neg hd1] at HST
          have hd2 : (vd == 1) = false := beq_eq_false_iff_ne.2 hd1
          go_wp2_with fail
          go_roundw
          case rel => exact ⟨k + 1, by omega, by go_num, by rw [HST]; exact HTL.out⟩
          case measure => simp [intOf]; omega
    · obtain rfl : k = n := by omega
      have hin : ¬ ((k : Int) < (k : Int)) := by omega
      have HE := Lib.hid (show l.take k = l by rw [← H.out.len, List.take_length])
      clear htl
      go_wp2_with fail
      go_ret
      exact ⟨rfl, by have := HTL.out; rwa [HE.out] at this⟩
end Go.Proofs.YtlblgfpafdfilaaDoor
