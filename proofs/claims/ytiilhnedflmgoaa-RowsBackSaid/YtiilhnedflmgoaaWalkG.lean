/-
  THE WALKS OF isKindOfColumn, isNamed, May and the document's May.
-/
import Derived.Test.YtiilhnedflmgoaaWalkF
namespace Go.Proofs.Ytiilhnedflmgoaa
open Go.RowKit Go.Sort
attribute [local go_sem high] run_eqs

theorem seq_comm (a b : ByteArray) : seq a b = seq b a := by
  rw [Bool.eq_iff_iff, seq_eq, seq_eq]
  exact eq_comm
theorem fresh_app (a : C) (l m : List C) : fresh a (l ++ m) = (fresh a l && fresh a m) := by
  induction l with
  | nil => rfl
  | cons d r ih => simp [fresh, ih, Bool.and_assoc]
theorem nodup_snoc (l : List C) (c : C) (h : nodup l = true) (hn : (l.any fun d => seq d.nm c.nm) = false) : nodup (l ++ [c]) = true := by
  induction l with
  | nil => rfl
  | cons d r ih =>
    simp only [nodup, Bool.and_eq_true] at h
    simp only [List.any_cons, Bool.or_eq_false_iff] at hn
    simp only [List.cons_append, nodup, fresh_app, Bool.and_eq_true]
    refine ⟨⟨h.1, ?_⟩, ih h.2 hn.2⟩
    simp [fresh, seq_comm c.nm, hn.1]
theorem takeC_next {vs : List C} {k : Nat} {v : C} (h : vs[k]? = some v) : vs.take (k + 1) = vs.take k ++ [v] := by
  rw [List.take_add_one, h]; rfl
/-- what May knows of the columns so far -/
def Good (l : List C) : Prop := l.all colOk = true ∧ nodup l = true
theorem Good.next {cs : List C} {k : Nat} {c : C} (h : Good (cs.take k)) (hc : cs[k]? = some c) (ho : colOk c = true) (hn : ((cs.take k).any fun d => seq d.nm c.nm) = false) : Good (cs.take (k + 1)) := by
  rw [takeC_next hc]
  exact ⟨by rw [List.all_append, h.1]; simp [ho], nodup_snoc _ _ h.2 hn⟩
theorem Good.may {cs : List C} (h : Good cs) (h1 : 1 ≤ cs.length) (h2 : cs.length ≤ 16) : mayC cs = true := by
  rw [mayC_iff]
  exact ⟨h1, h2, List.all_eq_true.1 h.1, h.2⟩
theorem named_bad {cs : List C} {k : Nat} {c : C} (hc : cs[k]? = some c) (hn : ((cs.take k).any fun d => seq d.nm c.nm) = true) : mayC cs = false := by
  rw [List.any_eq_true] at hn
  obtain ⟨d, hd, hs⟩ := hn
  obtain ⟨i, hi⟩ := List.getElem?_of_mem hd
  rw [List.getElem?_take] at hi
  split at hi
  · rename_i hlt
    exact mayC_twin hlt hi hc (by rw [seq_comm]; exact hs)
  · cases hi

set_option maxRecDepth 100000 in
theorem isKind_any (k : Int) (w : World) : Calls Try.prog 24 #[.int .i64 k] w fun e w' => e = .returned (.bool (kindOk k)) ∧ w = w' := by
  by_cases h1 : k = 1
  · subst h1
    have e : kindOk 1 = true := by decide
    rw [e]
    go_enter Try.func24, Try.ntmps24
    go_wp2
    go_ret
    exact ⟨rfl, rfl⟩
  · by_cases h2 : k = 2
    · subst h2
      have e : kindOk 2 = true := by decide
      rw [e]
      go_enter Try.func24, Try.ntmps24
      go_wp2
      go_ret
      exact ⟨rfl, rfl⟩
    · by_cases h3 : k = 3
      · subst h3
        have e : kindOk 3 = true := by decide
        rw [e]
        go_enter Try.func24, Try.ntmps24
        go_wp2
        go_ret
        exact ⟨rfl, rfl⟩
      · have e : kindOk k = false := by simp [kindOk, h1, h2, h3]
        have d1 : (k == 1) = false := beq_false_of_ne h1
        have d2 : (k == 2) = false := beq_false_of_ne h2
        have d3 : (k == 3) = false := beq_false_of_ne h3
        rw [e]
        clear e h1 h2 h3
        go_enter Try.func24, Try.ntmps24
        go_wp2
        go_ret
        exact ⟨rfl, rfl⟩

theorem any_next {cs : List C} {k : Nat} {c : C} {nm : ByteArray} (hc : cs[k]? = some c) (h : ((cs.take k).any fun d => seq d.nm nm) = false) (hs : seq c.nm nm = false) : ((cs.take (k + 1)).any fun d => seq d.nm nm) = false := by
  rw [takeC_next hc, List.any_append, h]
  simp [hs]
set_option maxRecDepth 100000 in
set_option maxHeartbeats 1000000 in
theorem isNamed_any (A : Option Addr) (n c : Nat) (cs : List C) (nm : ByteArray) (w : World) (h : RC w A n cs) : Calls Try.prog 25 #[.slice A n c, .string nm] w fun e w' => e = .returned (.bool (cs.any fun d => seq d.nm nm)) ∧ Below w.heap.size w w' := by
  have hlen := Lib.hid h.1
  have hnb := h.2.2.1
  have H := Lib.hid h
  clear h
  go_enter Try.func25, Try.ntmps25
  go_wp2
  go_loopw [9] (fun i wr => ∃ k : Nat, k ≤ n ∧ i = .int .i64 (k : Int) ∧ ((cs.take k).any fun d => seq d.nm nm) = false ∧ Below w.heap.size w wr) (fun i _ => n - (intOf i).toNat)
  case atStart => exact ⟨0, by omega, rfl, rfl, Below.refl _ _⟩
  case round =>
    obtain ⟨k, hk, rfl, hall, hbel⟩ := hrel
    have HA := Lib.hid hall
    have HB := Lib.hid hbel
    have hsz := hbel.size
    clear hall hbel
    by_cases hlt : k < n
    · obtain ⟨g, o, v, rfl, hg, hv, hok, b0, b1, b2⟩ := (H.out.below HB.out).at_ hlt
      obtain ⟨vn, vk, vd⟩ := v
      have HV := Lib.hid hv
      simp only at b0 b1 b2
      clear hv hok
      by_cases hs : seq vn nm = true
      · have HE : Hid ((cs.any fun d => seq d.nm nm) = true) := List.any_eq_true.2 ⟨_, List.mem_of_getElem? HV.out, hs⟩
        go_wp2
        go_ret
        exact ⟨by rw [HE.out]; rfl, HB.out.alloc hsz _⟩
      · have hs : seq vn nm = false := by simpa using hs
        have HN := Lib.hid (any_next HV.out HA.out hs)
        go_wp2
        go_roundw
        case rel => exact ⟨k + 1, by omega, by go_num, HN.out, HB.out.alloc hsz _⟩
        case measure => simp [intOf]; omega
    · obtain rfl : k = n := by omega
      have hall := HA.out
      rw [List.take_of_length_le (by rw [hlen.out]; omega)] at hall
      have HN := Lib.hid hall
      clear hall
      go_wp2
      go_ret
      exact ⟨by rw [HN.out]; rfl, HB.out⟩

theorem bel_of {F : FuncId} {args : Array Value} {w : World} {v : Value} (h : Calls Try.prog F args w fun e w' => e = .returned v ∧ w = w') : Calls Try.prog F args w fun e w' => e = .returned v ∧ Below w.heap.size w w' :=
  h.mono fun _ _ ⟨he, hw⟩ => ⟨he, hw ▸ Below.refl _ _⟩
set_option maxRecDepth 100000 in
set_option maxHeartbeats 2000000 in
theorem mayC_any (A : Option Addr) (n c : Nat) (cs : List C) (w : World) (h : RC w A n cs) (hc : n ≤ c) : Calls Try.prog 9 #[.slice A n c] w fun e w' => e = .returned (.bool (mayC cs)) ∧ Below w.heap.size w w' := by
  have hlen := Lib.hid h.1
  have hnb := h.2.2.1
  have H := Lib.hid h
  clear h
  by_cases h0 : n = 0
  · subst h0
    rw [mayC_long (by rw [hlen.out]; omega)]
    go_enter Try.func9, Try.ntmps9
    go_wp2
    go_ret
    exact ⟨rfl, Below.refl _ _⟩
  · have hz : ((n : Int) == 0) = false := beq_false_of_ne (by omega)
    by_cases h16 : n ≤ 16
    · have hd : decide ((n : Int) > 16) = false := decide_eq_false (by omega)
      go_enter Try.func9, Try.ntmps9
      go_wp2
      go_loopw [15] (fun i wr => ∃ k : Nat, k ≤ n ∧ i = .int .i64 (k : Int) ∧ Good (cs.take k) ∧ Below w.heap.size w wr) (fun i _ => n - (intOf i).toNat)
      case atStart => exact ⟨0, by omega, rfl, ⟨rfl, rfl⟩, Below.refl _ _⟩
      case round =>
        obtain ⟨k, hk, rfl, hall, hbel⟩ := hrel
        have HA := Lib.hid hall
        have HB := Lib.hid hbel
        have hsz := hbel.size
        clear hall hbel
        by_cases hlt : k < n
        · obtain ⟨g, o, v, rfl, hg, hv, hok, b0, b1, b2⟩ := (H.out.below HB.out).at_ hlt
          obtain ⟨vn, vk, vd⟩ := v
          have HV := Lib.hid hv
          have hs := hok.s
          simp only at hs b0 b1 b2
          obtain ⟨g0, g1, g2⟩ := (BoxC.new wr vn vk vd).grown
          have HC1 := Lib.hid (fun W => bel_of (name_any vn hs W))
          have HC2 := Lib.hid (fun W => bel_of (isKind_any vk W))
          have HC3 := Lib.hid (fun (W : World) (hW : RC W (some ⟨g, o, none⟩) n cs) => isNamed_any (some ⟨g, o, none⟩) k c (cs.take k) vn W (hW.take hk))
          have HRG := Lib.hid (fun d os => ((H.out.below HB.out).below ((Below.refl _ wr).alloc (Nat.le_refl _) (.cells #[.string vn, .int .i64 vk, .bool vd] 45))).below (below_regrown _ d os))
          have hkc : k ≤ c := by omega
          clear hv hok hs
          cases e1 : isName vn with
          | false =>
            have HN := Lib.hid (mayC_bad HV.out (by simp [colOk, e1]))
            simp only [e1] at HC1
            go_wp2_with fail
            refine wp_region_quiet_below (by kernel_rfl) (by kernel_rfl) ?_
            repeat (go_big_quiet_step ((go_at_call 7; exact Calls.regrown_of (HC1.out _))))
            refine wpQuiet_nil ?_
            intro _ hw'
            obtain ⟨p, rfl⟩ := hw'
            go_wp2
            go_ret
            exact ⟨by rw [HN.out]; rfl, below_trans (HB.out.alloc hsz _) (below_regrown _ _ _)⟩
          | true =>
            simp only [e1] at HC1
            cases e2 : kindOk vk with
            | false =>
              have HN := Lib.hid (mayC_bad HV.out (by simp [colOk, e2]))
              simp only [e2] at HC2
              go_wp2_with fail
              refine wp_region_quiet_below (by kernel_rfl) (by kernel_rfl) ?_
              repeat (go_big_quiet_step (first | (go_at_call 7; exact Calls.regrown_of (HC1.out _)) | (go_at_call 24; exact Calls.regrown_of (HC2.out _))))
              refine wpQuiet_nil ?_
              intro _ hw'
              obtain ⟨p, rfl⟩ := hw'
              go_wp2
              go_ret
              exact ⟨by rw [HN.out]; rfl, below_trans (HB.out.alloc hsz _) (below_regrown _ _ _)⟩
            | true =>
              simp only [e2] at HC2
              cases e3 : (cs.take k).any fun d => seq d.nm vn with
              | true =>
                have HN := Lib.hid (named_bad HV.out e3)
                simp only [e3] at HC3
                go_wp2_with fail
                refine wp_region_quiet_below (by kernel_rfl) (by kernel_rfl) ?_
                repeat (go_big_quiet_step (first | (go_at_call 7; exact Calls.regrown_of (HC1.out _)) | (go_at_call 24; exact Calls.regrown_of (HC2.out _)) | (go_at_call 25; exact Calls.regrown_of (HC3.out _ (HRG.out _ _)))))
                refine wpQuiet_nil ?_
                intro _ hw'
                obtain ⟨p, rfl⟩ := hw'
                go_wp2
                go_ret
                exact ⟨by rw [HN.out]; rfl, below_trans (HB.out.alloc hsz _) (below_regrown _ _ _)⟩
              | false =>
                have HN := Lib.hid (HA.out.next HV.out (by simp [colOk, e1, e2]) e3)
                simp only [e3] at HC3
                go_wp2_with fail
                refine wp_region_quiet_below (by kernel_rfl) (by kernel_rfl) ?_
                repeat (go_big_quiet_step (first | (go_at_call 7; exact Calls.regrown_of (HC1.out _)) | (go_at_call 24; exact Calls.regrown_of (HC2.out _)) | (go_at_call 25; exact Calls.regrown_of (HC3.out _ (HRG.out _ _)))))
                refine wpQuiet_nil ?_
                intro _ hw'
                obtain ⟨p, rfl⟩ := hw'
                go_wp2
                go_roundw
                case rel => exact ⟨k + 1, by omega, by go_num, HN.out, below_trans (HB.out.alloc hsz _) (below_regrown _ _ _)⟩
                case measure => simp [intOf]; omega
        · obtain rfl : k = n := by omega
          have hall := HA.out
          rw [List.take_of_length_le (by rw [hlen.out]; omega)] at hall
          have HN := Lib.hid (hall.may (by rw [hlen.out]; omega) (by rw [hlen.out]; omega))
          clear hall
          go_wp2
          go_ret
          exact ⟨by rw [HN.out]; rfl, HB.out⟩
    · have hd : decide ((n : Int) > 16) = true := decide_eq_true (by omega)
      rw [mayC_long (by rw [hlen.out]; omega)]
      clear h0 h16
      go_enter Try.func9, Try.ntmps9
      go_wp2
      go_ret
      exact ⟨rfl, Below.refl _ _⟩

/-! ### The document's May -/
/-- the columns below i are right, and like none behind them -/
def Good2 (cs : List C) (i : Nat) : Prop := (cs.take i).all colOk = true ∧ ∀ (a b : Nat) (x y : C), a < i → a < b → cs[a]? = some x → cs[b]? = some y → seq y.nm x.nm = false
def Good3 (cs : List C) (i j : Nat) (x : C) : Prop := ∀ (b : Nat) (y : C), i < b → b < j → cs[b]? = some y → seq y.nm x.nm = false
theorem Good2.may {cs : List C} (h : Good2 cs cs.length) (h1 : 1 ≤ cs.length) (h2 : cs.length ≤ 16) : mayC cs = true := by
  rw [mayC_iff]
  have ha := h.1
  rw [List.take_length] at ha
  refine ⟨h1, h2, List.all_eq_true.1 ha, (nodup_iff cs).2 fun i j a b hij hia hjb => ?_⟩
  have : i < cs.length := (List.getElem?_eq_some_iff.1 hia).1
  exact h.2 i j a b this hij hia hjb
theorem Good2.next {cs : List C} {i n : Nat} {x : C} (h : Good2 cs i) (hx : cs[i]? = some x) (ho : colOk x = true) (h3 : Good3 cs i n x) (hn : cs.length = n) : Good2 cs (i + 1) := by
  refine ⟨by rw [takeC_next hx, List.all_append, h.1]; simp [ho], fun a b u y ha hab hu hy => ?_⟩
  rcases Nat.lt_or_ge a i with hlt | hge
  · exact h.2 a b u y hlt hab hu hy
  · obtain rfl : a = i := by omega
    rw [hx] at hu
    injection hu with hu
    subst hu
    exact h3 b y hab (by rw [← hn]; exact (List.getElem?_eq_some_iff.1 hy).1) hy
theorem Good3.next {cs : List C} {i j : Nat} {x y : C} (h : Good3 cs i j x) (hy : cs[j]? = some y) (hs : seq y.nm x.nm = false) : Good3 cs i (j + 1) x := by
  intro b z hib hbj hz
  rcases Nat.lt_or_ge b j with hlt | hge
  · exact h b z hib hlt hz
  · obtain rfl : b = j := by omega
    rw [hy] at hz
    injection hz with hz
    subst hz
    exact hs
set_option maxRecDepth 100000 in
set_option maxHeartbeats 2000000 in
theorem rmayC_any (A : Option Addr) (n c : Nat) (cs : List C) (w : World) (h : RC w A n cs) : Calls Try.prog 11 #[.slice A n c] w fun e w' => e = .returned (.bool (mayC cs)) ∧ Below w.heap.size w w' := by
  have hlen := Lib.hid h.1
  have hnb := h.2.2.1
  have H := Lib.hid h
  clear h
  by_cases h0 : n = 0
  · subst h0
    rw [mayC_long (by rw [hlen.out]; omega)]
    go_enter Try.func11, Try.ntmps11
    go_wp2
    go_ret
    exact ⟨rfl, Below.refl _ _⟩
  · have hz : decide ((n : Int) < 1) = false := decide_eq_false (by omega)
    by_cases h16 : n ≤ 16
    · have hd : decide ((n : Int) > 16) = false := decide_eq_false (by omega)
      go_enter Try.func11, Try.ntmps11
      go_wp2
      go_loopw [3] (fun i wr => ∃ k : Nat, k ≤ n ∧ i = .int .i64 (k : Int) ∧ Good2 cs k ∧ Below w.heap.size w wr) (fun i _ => n - (intOf i).toNat)
      case atStart => exact ⟨0, by omega, rfl, ⟨rfl, fun a b x y ha => by omega⟩, Below.refl _ _⟩
      case round =>
        obtain ⟨k, hk, rfl, hall, hbel⟩ := hrel
        have HA := Lib.hid hall
        have HB := Lib.hid hbel
        have hsz := hbel.size
        clear hall hbel
        by_cases hlt : k < n
        · obtain ⟨g, o, v, rfl, hg, hv, hok, b0, b1, b2⟩ := (H.out.below HB.out).at_ hlt
          obtain ⟨vn, vk, vd⟩ := v
          have HV := Lib.hid hv
          have hs := hok.s
          simp only at hs b0 b1 b2
          have HC1 := Lib.hid (fun W => rname_any vn hs W)
          clear hv hok hs
          cases e1 : isName vn with
          | false =>
            have HN := Lib.hid (mayC_bad HV.out (by simp [colOk, e1]))
            simp only [e1] at HC1
            go_wp2_with (go_at_call 8; refine (HC1.out _).mono ?_; rintro e w' ⟨rfl, rfl⟩)
            go_ret
            exact ⟨by rw [HN.out]; rfl, HB.out⟩
          | true =>
            simp only [e1] at HC1
            cases e2 : kindOk vk with
            | false =>
              have HN := Lib.hid (mayC_bad HV.out (by simp [colOk, e2]))
              simp [kindOk] at e2
              have d1 : (vk == 1) = false := beq_false_of_ne e2.1
              have d2 : (vk == 2) = false := beq_false_of_ne e2.2.1
              have d3 : (vk == 3) = false := beq_false_of_ne e2.2.2
              have f1 : (vk != 1) = true := bne_iff_ne.2 e2.1
              have f2 : (vk != 2) = true := bne_iff_ne.2 e2.2.1
              have f3 : (vk != 3) = true := bne_iff_ne.2 e2.2.2
              clear e2
              go_wp2_with (go_at_call 8; refine (HC1.out _).mono ?_; rintro e w' ⟨rfl, rfl⟩)
              go_ret
              exact ⟨by rw [HN.out]; rfl, HB.out⟩
            | true =>
              have HCO : Hid (colOk ⟨vn, vk, vd⟩ = true) := by show _ = _; simp [colOk, e1, e2]
              have hk3 : vk = 1 ∨ vk = 2 ∨ vk = 3 := by simpa [kindOk] using e2
              clear e1 e2
              rcases hk3 with rfl | rfl | rfl
              all_goals
                go_wp2_with (go_at_call 8; refine (HC1.out _).mono ?_; rintro e w' ⟨rfl, rfl⟩)
                go_loopw [5] (fun i wq => ∃ j : Nat, k < j ∧ j ≤ n ∧ i = .int .i64 (j : Int) ∧ Hid (∃ vk, colOk ⟨vn, vk, vd⟩ = true ∧ cs[k]? = some ⟨vn, vk, vd⟩ ∧ Good3 cs k j ⟨vn, vk, vd⟩) ∧ Below w.heap.size w wq) (fun i _ => n - (intOf i).toNat)
                case atStart => exact ⟨k + 1, by omega, by omega, by go_num, ⟨_, HCO.out, HV.out, fun b y h1 h2 => by omega⟩, HB.out⟩
                case round =>
                  obtain ⟨j, hkj, hj, rfl, HG3, hbq⟩ := hrel
                  have HB := Lib.hid hbq
                  clear HC1 hbq b0 b1 b2 hg
                  obtain ⟨g3, o3, z, e, hg, hz, _, b0, b1, b2⟩ := (H.out.below HB.out).at_ hlt
                  injection e with e
                  injection e with e1 e2
                  subst e1 e2
                  rw [HV.out] at hz
                  injection hz with hz
                  subst hz
                  simp only at b0 b1 b2
                  by_cases hlt2 : j < n
                  · obtain ⟨g', o', y, e, hg', hy, hoy, y0, y1, y2⟩ := (H.out.below HB.out).at_ hlt2
                    injection e with e
                    injection e with e1 e2
                    subst e1 e2
                    obtain ⟨yn, yk, yd⟩ := y
                    have HY := Lib.hid hy
                    simp only at y0 y1 y2
                    clear hy hoy
                    cases hs : seq yn vn with
                    | true =>
                      have HN := Lib.hid (mayC_twin hkj HV.out HY.out hs)
                      go_wp2_with fail
                      go_quiet (fail)
                      go_wp2_with fail
                      go_ret
                      exact ⟨by rw [HN.out]; rfl, below_fields HB.out rfl rfl rfl rfl⟩
                    | false =>
                      have HN := Lib.hid (HG3.out.elim fun q h => (⟨q, h.1, h.2.1, h.2.2.next HY.out hs⟩ : ∃ vk, colOk ⟨vn, vk, vd⟩ = true ∧ cs[k]? = some ⟨vn, vk, vd⟩ ∧ Good3 cs k (j + 1) ⟨vn, vk, vd⟩))
                      go_wp2_with fail
                      go_quiet (fail)
                      go_wp2_with fail
                      go_roundw
                      case rel => exact ⟨j + 1, by omega, by omega, by go_num, HN, below_fields HB.out rfl rfl rfl rfl⟩
                      case measure => simp [intOf]; omega
                  · obtain rfl : j = n := by omega
                    have HN := Lib.hid (HG3.out.elim fun q h => HA.out.next h.2.1 h.1 h.2.2 hlen.out)
                    go_wp2
                    go_roundw
                    case rel => exact ⟨k + 1, by omega, by go_num, HN.out, HB.out⟩
                    case measure => simp [intOf]; omega
        · obtain rfl : k = n := by omega
          have HN := Lib.hid (Good2.may (cs := cs) (by rw [hlen.out]; exact HA.out) (by rw [hlen.out]; omega) (by rw [hlen.out]; omega))
          go_wp2
          go_ret
          exact ⟨by rw [HN.out]; rfl, HB.out⟩
    · have hd : decide ((n : Int) > 16) = true := decide_eq_true (by omega)
      rw [mayC_long (by rw [hlen.out]; omega)]
      clear h0 h16
      go_enter Try.func11, Try.ntmps11
      go_wp2
      go_ret
      exact ⟨rfl, Below.refl _ _⟩
end Go.Proofs.Ytiilhnedflmgoaa
