/-
  THE WALKS OF the document's Order, of allMay, anyNull, wanted, fit.
-/
import Derived.Test.YtjfpkjpicalfmaaDoorWalkC
namespace Go.Proofs.YtjfpkjpicalfmaaDoor
open Go.RowKit Go.Sort
attribute [local go_sem high] run_eq23 run_neq23 run_eq9

theorem Vs.get {w : World} {g : Nat} {vs : List V} (h : Vs w g vs) {k : Nat} (hk : k < vs.length) : Box w g (k * 3) (vs[k]).k (vs[k]).n (vs[k]).s := h k _ (List.getElem?_eq_getElem hk)
theorem take_more {P : V → Prop} {vs : List V} {k : Nat} (hk : k < vs.length) (h : ∀ v ∈ vs.take k, P v) (hp : P vs[k]) : ∀ v ∈ vs.take (k + 1), P v := by
  intro v hv
  rw [List.take_succ_eq_append_getElem hk] at hv
  rcases List.mem_append.1 hv with hv | hv
  · exact h v hv
  · simp at hv; rw [hv]; exact hp
theorem all_false {P : V → Bool} {vs : List V} {k : Nat} (hk : k < vs.length) (hp : P vs[k] = false) : vs.all P = false := by
  apply Bool.eq_false_iff.2
  intro h
  have := List.all_eq_true.1 h _ (List.getElem_mem hk)
  rw [hp] at this
  cases this
theorem any_true {P : V → Bool} {vs : List V} {k : Nat} (hk : k < vs.length) (hp : P vs[k] = true) : vs.any P = true := List.any_eq_true.2 ⟨_, List.getElem_mem hk, hp⟩
/-- a block of the call's own, then a call -/
theorem below_step {w wr w2 : World} {o : Obj} (h : Below w.heap.size w wr) (hb : Below (wr.alloc o).heap.size (wr.alloc o) w2) : Below w.heap.size w w2 :=
  h.trans ((((Below.refl _ _).alloc (Nat.le_refl _) _).trans (hb.mono (by simp))).mono h.size)

theorem allMay_any (g : Nat) (vs : List V) (n : Nat) (w : World) (h : Vs w g vs) (hg : g < w.heap.size) (hn : vs.length = n) (h2 : n ≤ 2) (hs : ∀ v ∈ vs, v.s.size ≤ 9223372036854775807) :
    Calls Tryd.prog 45 #[.slice (some ⟨g, 0, none⟩) n n] w fun e w' => e = .returned (.bool (vs.all V.may)) ∧ Below w.heap.size w w' := by
  have H := Lib.hid h
  have HS := Lib.hid hs
  have HN := Lib.hid hn
  clear h hs hn
  go_enter Tryd.func45, Tryd.ntmps45
  go_wp2
  go_loopw [7] (fun i wr => ∃ k : Nat, k ≤ n ∧ i = .int .i64 (k : Int) ∧ (∀ v ∈ vs.take k, V.may v = true) ∧ Below w.heap.size w wr) (fun i _ => n - (intOf i).toNat)
  case atStart => exact ⟨0, by omega, rfl, by simp, Below.refl _ _⟩
  case round =>
    obtain ⟨k, hk, rfl, hall, hbel⟩ := hrel
    have HALL := Lib.hid hall
    have HBEL := Lib.hid hbel
    clear hall hbel
    by_cases hlt : k < n
    · have hkl : k < vs.length := by rw [HN.out]; exact hlt
      have hbx := (H.out.get hkl).below HBEL.out hg
      have hsz := HS.out _ (List.getElem_mem hkl)
      have hmem := take_more (P := fun v => V.may v = true) hkl HALL.out
      have hno := all_false (P := V.may) hkl
      generalize vs[k] = v at hbx hsz hmem hno
      obtain ⟨vk, vn, vst⟩ := v
      have HM := Lib.hid hmem
      have HNO := Lib.hid hno
      simp only at hbx hsz
      obtain ⟨c0, c1, c2⟩ := hbx
      clear hmem hno
      have HC := Lib.hid (may_any vk vn vst hsz)
      clear hkl
      go_wp2_with fail
      refine (HC.out _).mono ?_
      rintro e w2 ⟨rfl, hb⟩
      have HB := Lib.hid (below_step HBEL.out hb)
      clear hb
      cases hm : may vk vn vst
      · have HF := Lib.hid (HNO.out hm)
        clear hm
        go_wp2
        go_ret
        exact ⟨by rw [HF.out]; rfl, HB.out⟩
      · have HT := Lib.hid (HM.out hm)
        clear hm
        go_wp2
        go_roundw
        case rel => exact ⟨k + 1, by omega, by go_num, HT.out, HB.out⟩
        case measure => simp [intOf]; omega
    · obtain rfl : k = n := by omega
      have ht : vs.all V.may = true := by
        rw [List.all_eq_true]
        intro v hv
        exact HALL.out v (by rw [List.take_of_length_le (by rw [HN.out]; exact Nat.le_refl _)]; exact hv)
      have HT := Lib.hid ht
      clear ht
      go_wp2
      go_ret
      exact ⟨by rw [HT.out]; rfl, HBEL.out⟩

def V.isNull (v : V) : Bool := veq v.k v.n v.s 0 0 ⟨#[]⟩
theorem anyNull_any (g : Nat) (vs : List V) (n : Nat) (w : World) (h : Vs w g vs) (hg : g < w.heap.size) (hn : vs.length = n) (h2 : n ≤ 2) :
    Calls Tryd.prog 75 #[.slice (some ⟨g, 0, none⟩) n n] w fun e w' => e = .returned (.bool (vs.any V.isNull)) ∧ Below w.heap.size w w' := by
  have H := Lib.hid h
  have HN := Lib.hid hn
  clear h hn
  go_enter Tryd.func75, Tryd.ntmps75
  go_wp2
  go_loopw [7] (fun i wr => ∃ k : Nat, k ≤ n ∧ i = .int .i64 (k : Int) ∧ (∀ v ∈ vs.take k, V.isNull v = false) ∧ Below w.heap.size w wr) (fun i _ => n - (intOf i).toNat)
  case atStart => exact ⟨0, by omega, rfl, by simp, Below.refl _ _⟩
  case round =>
    obtain ⟨k, hk, rfl, hall, hbel⟩ := hrel
    have HALL := Lib.hid hall
    have HBEL := Lib.hid hbel
    clear hall hbel
    by_cases hlt : k < n
    · have hkl : k < vs.length := by rw [HN.out]; exact hlt
      have hbx := (H.out.get hkl).below HBEL.out hg
      have hmem := take_more (P := fun v => V.isNull v = false) hkl HALL.out
      have hno := any_true (P := V.isNull) hkl
      generalize vs[k] = v at hbx hmem hno
      obtain ⟨vk, vn, vst⟩ := v
      have HM := Lib.hid hmem
      have HNO := Lib.hid hno
      simp only at hbx
      obtain ⟨c0, c1, c2⟩ := hbx
      clear hmem hno hkl
      go_wp2_with fail
      refine (isNull_any _ _ _ _).mono ?_
      rintro e w2 ⟨rfl, hb⟩
      have HB := Lib.hid (below_step HBEL.out hb)
      clear hb
      cases hm : veq vk vn vst 0 0 ⟨#[]⟩
      · have HT := Lib.hid (HM.out hm)
        clear hm
        go_wp2
        go_roundw
        case rel => exact ⟨k + 1, by omega, by go_num, HT.out, HB.out⟩
        case measure => simp [intOf]; omega
      · have HF := Lib.hid (HNO.out hm)
        clear hm
        go_wp2
        go_ret
        exact ⟨by rw [HF.out]; rfl, HB.out⟩
    · obtain rfl : k = n := by omega
      have ht : vs.any V.isNull = false := by
        rw [List.any_eq_false]
        intro v hv
        have := HALL.out v (by rw [List.take_of_length_le (by rw [HN.out]; exact Nat.le_refl _)]; exact hv)
        rw [this]
        exact Bool.false_ne_true
      have HT := Lib.hid ht
      clear ht
      go_wp2
      go_ret
      exact ⟨by rw [HT.out]; rfl, HBEL.out⟩

/-- of a kind, or Null -/
def fits (kind : Int) (v : V) : Bool := v.k == kind || V.isNull v
def want (kind : Int) (vs : List V) : Int := if vs.all V.may then (if vs.all (fits kind) then 0 else 30) else 5
theorem wanted_any (kind : Int) (g : Nat) (vs : List V) (n : Nat) (w : World) (h : Vs w g vs) (hg : g < w.heap.size) (hn : vs.length = n) (h2 : n ≤ 2) (hs : ∀ v ∈ vs, v.s.size ≤ 9223372036854775807) :
    Calls Tryd.prog 65 #[.int .i64 kind, .slice (some ⟨g, 0, none⟩) n n] w fun e w' => e = .returned (.int .i64 (want kind vs)) ∧ Below w.heap.size w w' := by
  have HC := Lib.hid (allMay_any g vs n w h hg hn h2 hs)
  have H := Lib.hid h
  have HN := Lib.hid hn
  clear h hn hs
  go_enter Tryd.func65, Tryd.ntmps65
  go_wp2_with fail
  refine HC.out.mono ?_
  rintro e w1 ⟨rfl, hb1⟩
  have HB1 := Lib.hid hb1
  clear hb1
  cases hm : vs.all V.may
  · have HW : Hid (want kind vs = 5) := by show want kind vs = 5; unfold want; rw [hm]; rfl
    clear hm
    go_wp2
    go_ret
    exact ⟨by rw [HW.out]; rfl, HB1.out⟩
  · have HW : Hid (want kind vs = if vs.all (fits kind) then 0 else 30) := by show want kind vs = _; unfold want; rw [hm]; rfl
    clear hm
    go_wp2
    go_loopw [12] (fun i wr => ∃ k : Nat, k ≤ n ∧ i = .int .i64 (k : Int) ∧ (∀ v ∈ vs.take k, fits kind v = true) ∧ Below w.heap.size w wr) (fun i _ => n - (intOf i).toNat)
    case atStart => exact ⟨0, by omega, rfl, by simp, HB1.out⟩
    case round =>
      obtain ⟨k, hk, rfl, hall, hbel⟩ := hrel
      have HALL := Lib.hid hall
      have HBEL := Lib.hid hbel
      clear hall hbel
      by_cases hlt : k < n
      · have hkl : k < vs.length := by rw [HN.out]; exact hlt
        have hbx := (H.out.get hkl).below HBEL.out hg
        have hmem := take_more (P := fun v => fits kind v = true) hkl HALL.out
        have hno := all_false (P := fits kind) hkl
        generalize vs[k] = v at hbx hmem hno
        obtain ⟨vk, vn, vst⟩ := v
        have HM := Lib.hid hmem
        have HNO := Lib.hid hno
        simp only at hbx
        obtain ⟨c0, c1, c2⟩ := hbx
        clear hmem hno hkl
        by_cases hkk : vk = kind
        · have HT := Lib.hid (HM.out (by simp [fits, hkk]))
          have hne : (vk != kind) = false := by simpa using hkk
          clear hkk
          go_wp2_with fail
          go_roundw
          case rel => exact ⟨k + 1, by omega, by go_num, HT.out, HBEL.out.trans (((Below.refl _ _).alloc (Nat.le_refl _) _).mono HBEL.out.size)⟩
          case measure => simp [intOf]; omega
        · have hne : (vk != kind) = true := by simpa using hkk
          have hke : (vk == kind) = false := by simpa using hkk
          have HKE := Lib.hid hke
          clear hke hkk
          go_wp2_with fail
          refine (isNull_any _ _ _ _).mono ?_
          rintro e w2 ⟨rfl, hb⟩
          have HB := Lib.hid (below_step HBEL.out hb)
          clear hb
          cases hm : veq vk vn vst 0 0 ⟨#[]⟩
          · have HF := Lib.hid (HNO.out (by simp only [fits, V.isNull]; rw [HKE.out, hm]; rfl))
            clear hm
            go_wp2
            go_ret
            exact ⟨by rw [HW.out, HF.out]; rfl, HB.out⟩
          · have HT := Lib.hid (HM.out (by simp only [fits, V.isNull]; rw [hm]; simp))
            clear hm
            go_wp2
            go_roundw
            case rel => exact ⟨k + 1, by omega, by go_num, HT.out, HB.out⟩
            case measure => simp [intOf]; omega
      · obtain rfl : k = n := by omega
        have ht : vs.all (fits kind) = true := by
          rw [List.all_eq_true]
          intro v hv
          exact HALL.out v (by rw [List.take_of_length_le (by rw [HN.out]; exact Nat.le_refl _)]; exact hv)
        have HT := Lib.hid ht
        clear ht
        go_wp2
        go_ret
        exact ⟨by rw [HW.out, HT.out]; rfl, HBEL.out⟩
end Go.Proofs.YtjfpkjpicalfmaaDoor
