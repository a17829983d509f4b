/-
  THE DOCUMENT'S DISK: THE WALKS OF Sync, Cut.
-/
import Derived.Test.YtjblcligkgjbjaaWalkV
namespace Go.Proofs.Ytjblcligkgjbjaa
open Go.RowKit Go.Sort Go.Maps

section
variable {w w' : World} {O T S U : Nat → Prop} {v vk vc : Value} {L : List (List Nat)} {g : Nat} {d : DS}
set_option maxRecDepth 100000 in
/-- a row's element is set -/
theorem Row.set (h : Row w O T v L) {a : Nat} (ha : a < L.length) {x : Value} {l : List Nat} (hx : SL w T x l) (hTO : ∀ q, T q → ¬ O q) :
    ∃ G ck cur, v = .slice (some ⟨G, 0, none⟩) L.length ck ∧ O G ∧ Blk w G 33 cur ∧ (∃ q, w.cell? ⟨G, a, none⟩ = some q) ∧ Row (w.setCell ⟨G, a, none⟩ x) O T v (L.set a l) := by
  obtain ⟨xs, ho, hO, hs⟩ := h
  have hxl : xs.length = L.length := by simpa using ho.1
  rcases ho.2 with ⟨_, h0⟩ | ⟨G, cap, cur, rfl, _, hb, _⟩
  · omega
  · have hG := hO G rfl
    have hT : ∀ y m, SL w T y m → SL (w.setCell ⟨G, a, none⟩ x) T y m := fun y m hsl => hsl.keep (U := fun q => q = G) (Fr.setCell (S := fun q => q = G) (Fr.refl w _) (p := ⟨G, a, none⟩) (Or.inl rfl) _) fun q hq e => hTO q hq (e ▸ hG)
    refine ⟨G, cap, cur, rfl, hG, hb, ⟨xs[a]'(by omega), by rw [ho.cellAt a (by omega)]; simp [show a < xs.length by omega]⟩, ⟨xs.set a x, by rw [List.length_set]; exact (ho.stored a x).1, hO, fun i m hi => ?_⟩⟩
    rw [List.getElem?_set] at hi ⊢
    rw [hxl]
    by_cases e : a = i
    · subst e
      rw [if_pos rfl, if_pos ha] at hi ⊢
      cases hi
      exact ⟨x, rfl, hT _ _ hx⟩
    · rw [if_neg e] at hi ⊢
      obtain ⟨y, e2, hy⟩ := hs i m hi
      exact ⟨y, e2, hT _ _ hy⟩
set_option maxRecDepth 100000 in
/-- a sector is settled -/
theorem RD.settle (h : RD w S T g d vk vc) {a : Nat} (ha : a < d.kept.length) {x : Value} {l : List Nat} (hx : SL w T x l) (hsec : Sec l) :
    ∃ G ck cur, vk = .slice (some ⟨G, 0, none⟩) d.kept.length ck ∧ Blk w G 33 cur ∧ (∃ q, w.cell? ⟨G, a, none⟩ = some q) ∧ RD (w.setCell ⟨G, a, none⟩ x) S T g { d with kept := d.kept.set a l } vk vc ∧ Fr w (w.setCell ⟨G, a, none⟩ x) S := by
  obtain ⟨G, ck, cur, e, hG, hb, hq, hr⟩ := h.k.set ha hx h.st
  have hh : ∀ q, q ≠ G → (w.setCell ⟨G, a, none⟩ x).heap[q]? = w.heap[q]? := fun q hq => Below.heap_setCell w _ x q hq
  have hT : ∀ y m, SL w T y m → SL (w.setCell ⟨G, a, none⟩ x) T y m := fun y m hsl => hsl.keep (U := fun q => q = G) (Fr.setCell (S := fun q => q = G) (Fr.refl w _) (p := ⟨G, a, none⟩) (Or.inl rfl) _) fun q hq e => h.st q hq (e ▸ hG)
  refine ⟨G, ck, cur, e, hb, hq, ⟨h.sg, ⟨?_, ?_, ?_, ?_, h.ok.tr1, h.ok.tr2, h.ok.drk⟩, ?_, hr, ?_, h.st, fun q hq => by simpa using h.tl q hq, fun q hq => by simpa using h.sl q hq⟩, (Fr.refl _ _).setCell (Or.inl hG) _⟩
  · simpa using h.ok.pos
  · simpa using h.ok.few
  · intro s hs
    rcases List.mem_or_eq_of_mem_set hs with hs | hs
    · exact h.ok.sec s hs
    · rw [hs]; exact hsec
  · intro c hc; simpa using h.ok.cac c hc
  · exact (hh g (h.b.ne_ hb (by decide))).trans h.b
  · exact h.c.stays (fun q hq => hh q fun e => h.c.own_ne hb (by decide) (e ▸ hq)) hT
set_option maxRecDepth 100000 in
/-- the cache is emptied -/
theorem RD.clear_ (h : RD w S T g d vk vc) : RD (w.setCell ⟨g, 1, none⟩ (.slice none 0 0)) S T g { d with cache := [] } vk (.slice none 0 0) ∧ Fr w (w.setCell ⟨g, 1, none⟩ (.slice none 0 0)) S := by
  have hh : ∀ q, q ≠ g → (w.setCell ⟨g, 1, none⟩ (.slice none 0 0)).heap[q]? = w.heap[q]? := fun q hq => Below.heap_setCell w _ _ q hq
  have hT : ∀ y m, SL w T y m → SL (w.setCell ⟨g, 1, none⟩ (.slice none 0 0)) T y m := fun y m hsl => hsl.keep (U := fun q => q = g) (Fr.setCell (S := fun q => q = g) (Fr.refl w _) (p := ⟨g, 1, none⟩) (Or.inl rfl) _) fun q hq e => h.st q hq (e ▸ h.sg)
  refine ⟨⟨h.sg, ⟨h.ok.pos, h.ok.few, h.ok.sec, (fun c hc => by cases hc), h.ok.tr1, h.ok.tr2, h.ok.drk⟩, ?_, h.k.stays (fun q hq => hh q fun e => h.k.own_ne h.b (by decide) (e ▸ hq)) hT, CW.nil_ _ _ _, h.st, fun q hq => by simpa using h.tl q hq, fun q hq => by simpa using h.sl q hq⟩, (Fr.refl _ _).setCell (Or.inl h.sg) _⟩
  have := h.b.set_ 1 (.slice none 0 0)
  simpa [rcs] using this
end
/-- what a round of Sync, of Cut reads -/
def SS (g : Nat) (vk vc : Value) (H : Nat) (i : Nat) (a : Int) (x : Value) (w : World) : Prop :=
  w.cell? ⟨g, 0, none⟩ = some vk ∧ w.cell? ⟨g, 1, none⟩ = some vc ∧ w.cell? ⟨H, i * 2, none⟩ = some (.int .i64 a) ∧ w.cell? ⟨H, i * 2 + 1, none⟩ = some x
set_option maxRecDepth 100000 in
theorem SS.other {g : Nat} {vk vc : Value} {H i : Nat} {a : Int} {x : Value} {w w' : World} (h : SS g vk vc H i a x w) (h1 : w'.heap[g]? = w.heap[g]?) (h2 : w'.heap[H]? = w.heap[H]?) : SS g vk vc H i a x w' :=
  ⟨(World.cell?_of_block h1).trans h.1, (World.cell?_of_block h1).trans h.2.1, (World.cell?_of_block h2).trans h.2.2.1, (World.cell?_of_block h2).trans h.2.2.2⟩
set_option maxRecDepth 100000 in
/-- all that a round comes to -/
theorem RD.round {w : World} {S T : Nat → Prop} {g : Nat} {d : DS} {vk vc : Value} (h : RD w S T g d vk vc) {i : Nat} (hi : i < d.cache.length) :
    ∃ a l G nk ck H nc cc A n c, d.cache[i]? = some (a, l) ∧ a < nk ∧ d.kept.length = nk ∧ vk = .slice (some ⟨G, 0, none⟩) nk ck ∧ vc = .slice (some ⟨H, 0, none⟩) nc cc ∧ d.cache.length = nc ∧ (∃ q, w.drew.cell? ⟨G, a, none⟩ = some q) ∧ w.drew.frozen? ⟨G, a, none⟩ = false ∧
      SS g vk vc H i (a : Int) (.slice A n c) w ∧ SS g vk vc H i (a : Int) (.slice A n c) w.drew ∧ SS g vk vc H i (a : Int) (.slice A n c) (w.drew.setCell ⟨G, a, none⟩ (.slice A n c)) ∧
      RD (w.drew.setCell ⟨G, a, none⟩ (.slice A n c)) S T g { d with kept := d.kept.set a l } vk vc ∧ Fr w (w.drew.setCell ⟨G, a, none⟩ (.slice A n c)) S := by
  obtain ⟨⟨a, l⟩, hal⟩ : ∃ q, d.cache[i]? = some q := ⟨_, List.getElem?_eq_getElem hi⟩
  have hmem : (a, l) ∈ d.cache := List.mem_of_getElem? hal
  obtain ⟨ha, hsec⟩ := h.ok.cac _ hmem
  have hd := h.keep (U := No) (Fr.refl w No).drew (fun _ _ hn => hn) fun _ _ hn => hn
  obtain ⟨Ac, cc, hvc, _, hcl⟩ := hd.c.look
  obtain ⟨H, x, rfl, e1, e2, hsl⟩ := hcl i a l hal
  obtain ⟨A, c, hx, hrx⟩ := id hsl
  subst hx
  obtain ⟨G, ck, cur, hvk, hb, hq, hR, hF⟩ := hd.settle ha hsl hsec
  have hc0 := hd.b.cell 0
  have hc1 := hd.b.cell 1
  simp only [rcs, List.getElem?_toArray, List.getElem?_cons_zero, List.getElem?_cons_succ] at hc0 hc1
  have hss : SS g vk vc H i (a : Int) (.slice A l.length c) w.drew := ⟨hc0, hc1, e1, e2⟩
  have hHG : H ≠ G := by
    rintro rfl
    obtain ⟨ss, _, ⟨_, h2⟩, _⟩ := hd.c
    rcases h2 with ⟨e, _⟩ | ⟨g2, cap2, cur2, e, _, b2, _⟩
    · rw [hvc] at e; cases e
    · rw [hvc] at e
      injection e with e
      injection e with e
      injection e with e
      subst e
      exact Blk.ne_ (t := 33) (t' := 76) hb b2 (by decide) rfl
  exact ⟨a, l, G, d.kept.length, ck, H, d.cache.length, cc, A, l.length, c, hal, ha, rfl, hvk, hvc, rfl, hq, hb.frozen a, hss, hss,
    hss.other (Below.heap_setCell _ _ _ g (hd.b.ne_ hb (by decide))) (Below.heap_setCell _ _ _ H hHG), hR, ((Fr.refl w S).drew.same hF)⟩

set_option maxRecDepth 100000 in
theorem rsync_dark (w : World) (S T : Nat → Prop) (g : Nat) (d : DS) (h : RAt w S T g d) (hm : d.may = false) :
    Calls Try.prog 31 #[ptr (some g)] w fun e w' => e = .returned (.int .i64 8) ∧ RAt w' S T g d.next ∧ Fr w w' S := by
  have HO := rcomes_any w S T g d h
  rw [hm] at HO
  have HO := Lib.hid HO
  clear h
  simp only [ptr, Option.map] at HO ⊢
  go_enter Try.func31, Try.ntmps31
  go_wp2_with fail
  with_reducible refine HO.out.mono ?_
  rintro e w1 ⟨rfl, hD, hF⟩
  have HD := Lib.hid hD
  have HF := Lib.hid hF
  clear hD hF HO
  go_wp2_with fail
  go_ret
  exact ⟨rfl, HD.out, HF.out⟩
set_option maxHeartbeats 2000000 in
set_option maxRecDepth 100000 in
theorem rsync_some (w : World) (S T : Nat → Prop) (g : Nat) (d : DS) (h : RAt w S T g d) (hm : d.may = true) (hlen : d.cache.length < 1000000) :
    Calls Try.prog 31 #[ptr (some g)] w fun e w' => e = .returned (.int .i64 0) ∧ RAt w' S T g d.next.sync ∧ Fr w w' S := by
  have HO := rcomes_any w S T g d h
  rw [hm] at HO
  rw [← next_cache] at hlen
  clear h hm
  generalize d.next = x at *
  have HO := Lib.hid HO
  simp only [ptr, Option.map] at HO ⊢
  go_enter Try.func31, Try.ntmps31
  go_wp2_with fail
  with_reducible refine HO.out.mono ?_
  rintro e w1 ⟨rfl, hD, hF⟩
  clear HO
  obtain ⟨vk, vc, hD⟩ := hD
  have hc6 := hD.b.cell 6
  have hf6 := hD.b.frozen 6
  simp only [rcs, List.getElem?_toArray, List.getElem?_cons_zero, List.getElem?_cons_succ] at hc6
  have hr2 : IntKind.i64.wrap (x.sy + 1) = up x.sy := rfl
  obtain ⟨r', hr'⟩ : ∃ r', r' = up x.sy := ⟨_, rfl⟩
  rw [← hr'] at hr2
  obtain ⟨hE, hG⟩ := hD.field (d' := { x with sy := r' }) 6 (.int .i64 r') rfl rfl ⟨hD.ok.pos, hD.ok.few, hD.ok.sec, hD.ok.cac, hD.ok.tr1, hD.ok.tr2, hD.ok.drk⟩ (by simp [rcs])
  have HRR := Lib.hid hr'
  have HE := Lib.hid hE
  have HG := Lib.hid (hF.same hG)
  clear hD hE hF hG hr'
  go_wp2_with fail
  go_loopw [3] (fun u wr => ∃ i : Nat, u = .int .i64 (i : Int) ∧ i ≤ x.cache.length ∧ RD wr S T g { x with sy := r', kept := setN x.kept x.cache i } vk vc ∧ Fr w wr S) (fun u _ => x.cache.length - (intOf u).toNat)
  case atStart => exact ⟨0, rfl, Nat.zero_le _, HE.out, HG.out⟩
  case round =>
    clear HE HG
    obtain ⟨i, rfl, hi, hR, hF⟩ := hrel
    have HF := Lib.hid hF
    clear hF
    by_cases hlt : i < x.cache.length
    · obtain ⟨a, l, G, nk, ck, H, nc, cc, A, n, c, hal, hank, hnk, rfl, rfl, hnc, ⟨q, hq⟩, hfz, hs0, hs1, hs2, hR2, hF2⟩ := hR.round hlt
      have h1 : ((i : Int) < (nc : Int)) := by have : x.cache.length = nc := hnc; omega
      have h2 : ((a : Int) < (nk : Int)) := by omega
      have hWn : IntKind.i64.wrap ((i : Int) + 1) = ((i + 1 : Nat) : Int) := by rw [IntWalk.i64_in _ (by omega)]; omega
      have hgd : x.cache.getD i (0, []) = (a, l) := by have : x.cache[i]? = some (a, l) := hal; simp [List.getD, this]
      have HGD := Lib.hid hgd
      have HR2 := Lib.hid hR2
      have HF2 := Lib.hid hF2
      have HS1 := Lib.hid hs1
      have HS2 := Lib.hid hs2
      have c1 := hs0.2.1
      clear hal hank hnk hnc hs0 hs1 hs2 hR2 hF2 hgd hR
      go_upto_region 7 with fail
      refine wp_region_held_drew (S := SS g (.slice (some ⟨G, 0, none⟩) nk ck) (.slice (some ⟨H, 0, none⟩) nc cc) H i (a : Int) (.slice A n c)) (by kernel_rfl) HS1.out (fun hS => ?_)
      refine wpAnyH_take (i := 0) (v := ?_) rfl (by kernel_rfl) (by kernel_rfl) (by kernel_rfl) (fun _ _ _ h => h) (Or.inl ⟨by rfl, ?_⟩) hS ?_
      rotate_left
      · (intro wq hSw; go_simp; try with_reducible rfl)
      refine wpAnyH_take (i := 1) (v := ?_) rfl (by kernel_rfl) (by kernel_rfl) (by kernel_rfl) (fun _ _ _ h => h) (Or.inl ⟨by rfl, ?_⟩) hS ?_
      rotate_left
      · (intro wq hSw; obtain ⟨q1, q2, q3, q4⟩ := hSw; go_simp; try with_reducible rfl)
      simp only [List.getElem_toArray, List.getElem_cons_succ, List.getElem_cons_zero, Act.put, List.setIfInBounds_toArray, List.set_cons_succ, List.set_cons_zero]
      refine wpAnyH_take (i := 2) (v := ?_) rfl (by kernel_rfl) (by kernel_rfl) (by kernel_rfl) (fun _ _ _ h => h) (Or.inl ⟨by rfl, ?_⟩) hS ?_
      rotate_left
      · (intro wq hSw; obtain ⟨q1, q2, q3, q4⟩ := hSw; go_simp; try with_reducible rfl)
      simp only [List.getElem_toArray, List.getElem_cons_succ, List.getElem_cons_zero, Act.put, List.setIfInBounds_toArray, List.set_cons_succ, List.set_cons_zero]
      refine wpAnyH_take (i := 3) (v := ?_) rfl (by kernel_rfl) (by kernel_rfl) (by kernel_rfl) (fun _ _ _ h => h) (Or.inl ⟨by rfl, ?_⟩) hS ?_
      rotate_left
      · (intro wq hSw; obtain ⟨q1, q2, q3, q4⟩ := hSw; go_simp; try with_reducible rfl)
      simp only [List.getElem_toArray, List.getElem_cons_succ, List.getElem_cons_zero, Act.put, List.setIfInBounds_toArray, List.set_cons_succ, List.set_cons_zero]
      refine wpAnyH_take (i := 4) (v := ?_) rfl (by kernel_rfl) (by kernel_rfl) (by kernel_rfl) (fun _ _ _ h => h) (Or.inl ⟨by rfl, ?_⟩) hS ?_
      rotate_left
      · (intro wq hSw; obtain ⟨q1, q2, q3, q4⟩ := hSw; go_simp; try with_reducible rfl)
      simp only [List.getElem_toArray, List.getElem_cons_succ, List.getElem_cons_zero, Act.put, List.setIfInBounds_toArray, List.set_cons_succ, List.set_cons_zero]
      refine wpAnyH_take (i := 5) (v := ?_) rfl (by kernel_rfl) (by kernel_rfl) (by kernel_rfl) (fun _ _ _ h => h) (Or.inl ⟨by rfl, ?_⟩) hS ?_
      rotate_left
      · (intro wq hSw; obtain ⟨q1, q2, q3, q4⟩ := hSw; go_simp; try with_reducible rfl)
      simp only [List.getElem_toArray, List.getElem_cons_succ, List.getElem_cons_zero, Act.put, List.setIfInBounds_toArray, List.set_cons_succ, List.set_cons_zero]
      refine wpAnyH_take (i := 6) (v := ?_) rfl (by kernel_rfl) (by kernel_rfl) (by kernel_rfl) (fun _ _ _ h => h) (Or.inl ⟨by rfl, ?_⟩) hS ?_
      rotate_left
      · (intro wq hSw; obtain ⟨q1, q2, q3, q4⟩ := hSw; go_simp; try with_reducible rfl)
      simp only [List.getElem_toArray, List.getElem_cons_succ, List.getElem_cons_zero, Act.put, List.setIfInBounds_toArray, List.set_cons_succ, List.set_cons_zero]
      refine wpAnyH_take (i := 7) (v := ?_) rfl (by kernel_rfl) (by kernel_rfl) (by kernel_rfl) (fun _ _ _ h => h) (Or.inl ⟨by rfl, ?_⟩) hS ?_
      rotate_left
      · (intro wq hSw; obtain ⟨q1, q2, q3, q4⟩ := hSw; go_simp; try with_reducible rfl)
      simp only [List.getElem_toArray, List.getElem_cons_succ, List.getElem_cons_zero, Act.put, List.setIfInBounds_toArray, List.set_cons_succ, List.set_cons_zero]
      refine wpAnyH_take (i := 8) (v := ?_) rfl (by kernel_rfl) (by kernel_rfl) (by kernel_rfl) (fun _ _ _ h => h) (Or.inl ⟨by rfl, ?_⟩) hS ?_
      rotate_left
      · (intro wq hSw; obtain ⟨q1, q2, q3, q4⟩ := hSw; go_simp; try with_reducible rfl)
      simp only [List.getElem_toArray, List.getElem_cons_succ, List.getElem_cons_zero, Act.put, List.setIfInBounds_toArray, List.set_cons_succ, List.set_cons_zero]
      refine wpAnyH_take (i := 9) (v := ?_) rfl (by kernel_rfl) (by kernel_rfl) (by kernel_rfl) (fun _ _ _ h => h) (Or.inl ⟨by rfl, ?_⟩) hS ?_
      rotate_left
      · (intro wq hSw; obtain ⟨q1, q2, q3, q4⟩ := hSw; go_simp; try with_reducible rfl)
      simp only [List.getElem_toArray, List.getElem_cons_succ, List.getElem_cons_zero, Act.put, List.setIfInBounds_toArray, List.set_cons_succ, List.set_cons_zero]
      refine wpAnyH_take (i := 10) (v := ?_) rfl (by kernel_rfl) (by kernel_rfl) (by kernel_rfl) (fun _ _ _ h => h) (Or.inl ⟨by rfl, ?_⟩) hS ?_
      rotate_left
      · (intro wq hSw; obtain ⟨q1, q2, q3, q4⟩ := hSw; go_simp; try with_reducible rfl)
      simp only [List.getElem_toArray, List.getElem_cons_succ, List.getElem_cons_zero, Act.put, List.setIfInBounds_toArray, List.set_cons_succ, List.set_cons_zero]
      refine wpAnyH_take (i := 11) (v := ?_) rfl (by kernel_rfl) (by kernel_rfl) (by kernel_rfl) (fun _ _ _ h => h) (Or.inl ⟨by rfl, ?_⟩) hS ?_
      rotate_left
      · (intro wq hSw; obtain ⟨q1, q2, q3, q4⟩ := hSw; go_simp; try with_reducible rfl)
      simp only [List.getElem_toArray, List.getElem_cons_succ, List.getElem_cons_zero, Act.put, List.setIfInBounds_toArray, List.set_cons_succ, List.set_cons_zero]
      refine wpAnyH_take (i := 12) (v := ?_) rfl (by kernel_rfl) (by kernel_rfl) (by kernel_rfl) (fun _ _ _ h => h) (Or.inl ⟨by rfl, ?_⟩) hS ?_
      rotate_left
      · (intro wq hSw; obtain ⟨q1, q2, q3, q4⟩ := hSw; go_simp; try with_reducible rfl)
      simp only [List.getElem_toArray, List.getElem_cons_succ, List.getElem_cons_zero, Act.put, List.setIfInBounds_toArray, List.set_cons_succ, List.set_cons_zero]
      refine wpAnyH_take (i := 13) (v := ?_) rfl (by kernel_rfl) (by kernel_rfl) (by kernel_rfl) (fun _ _ _ h => h) (Or.inl ⟨by rfl, ?_⟩) hS ?_
      rotate_left
      · (intro wq hSw; obtain ⟨q1, q2, q3, q4⟩ := hSw; go_simp; try with_reducible rfl)
      simp only [List.getElem_toArray, List.getElem_cons_succ, List.getElem_cons_zero, Act.put, List.setIfInBounds_toArray, List.set_cons_succ, List.set_cons_zero]
      refine wpAnyH_take (i := 14) (v := ?_) rfl (by kernel_rfl) (by kernel_rfl) (by kernel_rfl) (fun _ _ _ h => h) (Or.inl ⟨by rfl, ?_⟩) hS ?_
      rotate_left
      · (intro wq hSw; obtain ⟨q1, q2, q3, q4⟩ := hSw; go_simp; try with_reducible rfl)
      simp only [List.getElem_toArray, List.getElem_cons_succ, List.getElem_cons_zero, Act.put, List.setIfInBounds_toArray, List.set_cons_succ, List.set_cons_zero]
      refine wpAnyH_take (i := 15) (v := ?_) rfl (by kernel_rfl) (by kernel_rfl) (by kernel_rfl) (fun _ _ _ h => h) (Or.inl ⟨by rfl, ?_⟩) hS ?_
      rotate_left
      · (intro wq hSw; obtain ⟨q1, q2, q3, q4⟩ := hSw; go_simp; try with_reducible rfl)
      simp only [List.getElem_toArray, List.getElem_cons_succ, List.getElem_cons_zero, Act.put, List.setIfInBounds_toArray, List.set_cons_succ, List.set_cons_zero]
      refine wpAnyH_take (i := 16) (v := ?_) rfl (by kernel_rfl) (by kernel_rfl) (by kernel_rfl) (fun _ _ _ h => h) (Or.inl ⟨by rfl, ?_⟩) hS ?_
      rotate_left
      · (intro wq hSw; obtain ⟨q1, q2, q3, q4⟩ := hSw; go_simp; try with_reducible rfl)
      simp only [List.getElem_toArray, List.getElem_cons_succ, List.getElem_cons_zero, Act.put, List.setIfInBounds_toArray, List.set_cons_succ, List.set_cons_zero]
      refine wpAnyH_take (i := 17) (v := ?_) rfl (by kernel_rfl) (by kernel_rfl) (by kernel_rfl) (fun _ _ _ h => h) (Or.inl ⟨by rfl, ?_⟩) hS ?_
      rotate_left
      · (intro wq hSw; obtain ⟨q1, q2, q3, q4⟩ := hSw; go_simp; try with_reducible rfl)
      simp only [List.getElem_toArray, List.getElem_cons_succ, List.getElem_cons_zero, Act.put, List.setIfInBounds_toArray, List.set_cons_succ, List.set_cons_zero]
      refine wpAnyH_take (i := 18) (v := ?_) rfl (by kernel_rfl) (by kernel_rfl) (by kernel_rfl) (fun _ _ _ h => h) (Or.inl ⟨by rfl, ?_⟩) hS ?_
      rotate_left
      · (intro wq hSw; obtain ⟨q1, q2, q3, q4⟩ := hSw; go_simp; try with_reducible rfl)
      simp only [List.getElem_toArray, List.getElem_cons_succ, List.getElem_cons_zero, Act.put, List.setIfInBounds_toArray, List.set_cons_succ, List.set_cons_zero]
      refine wpAnyH_take (i := 19) (v := ?_) rfl (by kernel_rfl) (by kernel_rfl) (by kernel_rfl) (fun _ _ _ h => h) (Or.inl ⟨by rfl, ?_⟩) hS ?_
      rotate_left
      · (intro wq hSw; obtain ⟨q1, q2, q3, q4⟩ := hSw; go_simp; try with_reducible rfl)
      simp only [List.getElem_toArray, List.getElem_cons_succ, List.getElem_cons_zero, Act.put, List.setIfInBounds_toArray, List.set_cons_succ, List.set_cons_zero]
      refine wpAnyH_take (i := 20) (v := ?_) rfl (by kernel_rfl) (by kernel_rfl) (by kernel_rfl) (fun _ _ _ h => h) (Or.inl ⟨by rfl, ?_⟩) hS ?_
      rotate_left
      · (intro wq hSw; obtain ⟨q1, q2, q3, q4⟩ := hSw; go_simp; try with_reducible rfl)
      simp only [List.getElem_toArray, List.getElem_cons_succ, List.getElem_cons_zero, Act.put, List.setIfInBounds_toArray, List.set_cons_succ, List.set_cons_zero]
      refine wpAnyH_ready (rs := [21]) (by kernel_rfl) (by simp) ?_
      refine AllReadyH.cons rfl (fun K hK => ?_) AllReadyH.nil
      simp only [List.getElem_toArray, List.getElem_cons_succ, List.getElem_cons_zero]
      go_simp
      refine hK.out _ _ HS2.out (fun hS => ?_)
      clear hK K
      refine wpAnyH_done (by kernel_rfl) ?_ _
      clear hS
      go_wp2_with fail
      go_roundw
      case rel => exact ⟨i + 1, by go_num, by omega, by rw [setN, HGD.out]; exact HR2.out, HF.out.same HF2.out⟩
      case measure => simp [intOf]; omega
    · obtain ⟨Ac, cc, hvc, _, _⟩ := hR.c.look
      have hvc : vc = .slice Ac x.cache.length cc := hvc
      have h1d : decide ((i : Int) < (x.cache.length : Int)) = false := decide_eq_false (by omega)
      have h1d2 : decide (i < x.cache.length) = false := decide_eq_false hlt
      have hc1 := hR.b.cell 1
      have hf1 := hR.b.frozen 1
      simp only [rcs, List.getElem?_toArray, List.getElem?_cons_zero, List.getElem?_cons_succ] at hc1
      rw [hvc] at hc1
      obtain ⟨hC, hG⟩ := hR.clear_
      have HI := Lib.hid (show i = x.cache.length by omega)
      have HC : Hid (RAt (wr.setCell ⟨g, 1, none⟩ (.slice none 0 0)) S T g x.sync) := by
        refine ⟨vk, .slice none 0 0, ?_⟩
        have := hC
        rw [HI.out, HRR.out] at this
        exact this
      have HZ := Lib.hid (HF.out.same hG)
      clear hR hC hG hvc
      go_wp2_with fail
      go_ret
      exact ⟨rfl, HC.out, HZ.out⟩
set_option maxHeartbeats 2000000 in
set_option maxRecDepth 100000 in
theorem rcut_any (w : World) (S T : Nat → Prop) (g : Nat) (x : DS) (h : RAt w S T g x) (U : Nat → Prop) (K : Option Addr) (kn kc : Nat) (keep : List Bool) (hkb : KB w U K kn keep) (hU : ∀ y, U y → ¬ S y) (hlen : x.cache.length < 1000000) :
    Calls Try.prog 33 #[ptr (some g), .slice K kn kc] w fun e w' => e = .returned (.tuple #[]) ∧ RAt w' S T g (x.cut keep) ∧ Fr w w' S := by
  obtain ⟨vk, vc, h⟩ := h
  have HE := Lib.hid h
  have HKB := Lib.hid hkb
  clear h hkb
  simp only [ptr, Option.map]
  go_enter Try.func33, Try.ntmps33
  go_wp2_with fail
  go_loopw [4] (fun u wr => ∃ i : Nat, u = .int .i64 (i : Int) ∧ i ≤ x.cache.length ∧ RD wr S T g { x with kept := cutN x.kept x.cache keep i } vk vc ∧ Fr w wr S) (fun u _ => x.cache.length - (intOf u).toNat)
  case atStart => exact ⟨0, rfl, Nat.zero_le _, HE.out, Fr.refl _ _⟩
  case round =>
    clear HE
    obtain ⟨i, rfl, hi, hR, hF⟩ := hrel
    have hkb : KB wr U K kn keep := HKB.out.keep hF hU
    have HF := Lib.hid hF
    clear hF
    by_cases hlt : i < x.cache.length
    · have hWn : IntKind.i64.wrap ((i : Int) + 1) = ((i + 1 : Nat) : Int) := by rw [IntWalk.i64_in _ (by omega)]; omega
      obtain ⟨a, l, G, nk, ck, H, nc, cc, A, n, c, hal, hank, hnk, rfl, rfl, hnc, ⟨q, hq⟩, hfz, hs0, hs1, hs2, hR2, hF2⟩ := hR.round hlt
      have h1 : ((i : Int) < (nc : Int)) := by have : x.cache.length = nc := hnc; omega
      have h2 : ((a : Int) < (nk : Int)) := by omega
      have hgd : x.cache.getD i (0, []) = (a, l) := by have : x.cache[i]? = some (a, l) := hal; simp [List.getD, this]
      have HGD := Lib.hid hgd
      have HR := Lib.hid hR
      have HR2 := Lib.hid hR2
      have HF2 := Lib.hid hF2
      have HS1 := Lib.hid hs1
      have HS2 := Lib.hid hs2
      have c1 := hs0.2.1
      clear hal hank hnk hnc hs0 hs1 hs2 hR2 hF2 hgd hR
      by_cases hjk : i < kn
      · obtain ⟨ad, hK, _, _, hc⟩ := hkb.2 (by omega)
        subst hK
        have hcj := hc i hjk
        have hjd : ((i : Int) < (kn : Int)) := by omega
        clear hc hkb
        cases hbj : keep.getD i false with
        | true =>
          rw [hbj] at hcj
          have HBJ := Lib.hid hbj
          clear hbj
          go_upto_region 4 with fail
          refine wp_region_held_drew (S := SS g (.slice (some ⟨G, 0, none⟩) nk ck) (.slice (some ⟨H, 0, none⟩) nc cc) H i (a : Int) (.slice A n c)) (by kernel_rfl) HS1.out (fun hS => ?_)
          refine wpAnyH_take (i := 0) (v := ?_) rfl (by kernel_rfl) (by kernel_rfl) (by kernel_rfl) (fun _ _ _ h => h) (Or.inl ⟨by rfl, ?_⟩) hS ?_
          rotate_left
          · (intro wq hSw; go_simp; try with_reducible rfl)
          refine wpAnyH_take (i := 1) (v := ?_) rfl (by kernel_rfl) (by kernel_rfl) (by kernel_rfl) (fun _ _ _ h => h) (Or.inl ⟨by rfl, ?_⟩) hS ?_
          rotate_left
          · (intro wq hSw; obtain ⟨q1, q2, q3, q4⟩ := hSw; go_simp; try with_reducible rfl)
          simp only [List.getElem_toArray, List.getElem_cons_succ, List.getElem_cons_zero, Act.put, List.setIfInBounds_toArray, List.set_cons_succ, List.set_cons_zero]
          refine wpAnyH_take (i := 2) (v := ?_) rfl (by kernel_rfl) (by kernel_rfl) (by kernel_rfl) (fun _ _ _ h => h) (Or.inl ⟨by rfl, ?_⟩) hS ?_
          rotate_left
          · (intro wq hSw; obtain ⟨q1, q2, q3, q4⟩ := hSw; go_simp; try with_reducible rfl)
          simp only [List.getElem_toArray, List.getElem_cons_succ, List.getElem_cons_zero, Act.put, List.setIfInBounds_toArray, List.set_cons_succ, List.set_cons_zero]
          refine wpAnyH_take (i := 3) (v := ?_) rfl (by kernel_rfl) (by kernel_rfl) (by kernel_rfl) (fun _ _ _ h => h) (Or.inl ⟨by rfl, ?_⟩) hS ?_
          rotate_left
          · (intro wq hSw; obtain ⟨q1, q2, q3, q4⟩ := hSw; go_simp; try with_reducible rfl)
          simp only [List.getElem_toArray, List.getElem_cons_succ, List.getElem_cons_zero, Act.put, List.setIfInBounds_toArray, List.set_cons_succ, List.set_cons_zero]
          refine wpAnyH_take (i := 4) (v := ?_) rfl (by kernel_rfl) (by kernel_rfl) (by kernel_rfl) (fun _ _ _ h => h) (Or.inl ⟨by rfl, ?_⟩) hS ?_
          rotate_left
          · (intro wq hSw; obtain ⟨q1, q2, q3, q4⟩ := hSw; go_simp; try with_reducible rfl)
          simp only [List.getElem_toArray, List.getElem_cons_succ, List.getElem_cons_zero, Act.put, List.setIfInBounds_toArray, List.set_cons_succ, List.set_cons_zero]
          refine wpAnyH_take (i := 5) (v := ?_) rfl (by kernel_rfl) (by kernel_rfl) (by kernel_rfl) (fun _ _ _ h => h) (Or.inl ⟨by rfl, ?_⟩) hS ?_
          rotate_left
          · (intro wq hSw; obtain ⟨q1, q2, q3, q4⟩ := hSw; go_simp; try with_reducible rfl)
          simp only [List.getElem_toArray, List.getElem_cons_succ, List.getElem_cons_zero, Act.put, List.setIfInBounds_toArray, List.set_cons_succ, List.set_cons_zero]
          refine wpAnyH_take (i := 6) (v := ?_) rfl (by kernel_rfl) (by kernel_rfl) (by kernel_rfl) (fun _ _ _ h => h) (Or.inl ⟨by rfl, ?_⟩) hS ?_
          rotate_left
          · (intro wq hSw; obtain ⟨q1, q2, q3, q4⟩ := hSw; go_simp; try with_reducible rfl)
          simp only [List.getElem_toArray, List.getElem_cons_succ, List.getElem_cons_zero, Act.put, List.setIfInBounds_toArray, List.set_cons_succ, List.set_cons_zero]
          refine wpAnyH_take (i := 7) (v := ?_) rfl (by kernel_rfl) (by kernel_rfl) (by kernel_rfl) (fun _ _ _ h => h) (Or.inl ⟨by rfl, ?_⟩) hS ?_
          rotate_left
          · (intro wq hSw; obtain ⟨q1, q2, q3, q4⟩ := hSw; go_simp; try with_reducible rfl)
          simp only [List.getElem_toArray, List.getElem_cons_succ, List.getElem_cons_zero, Act.put, List.setIfInBounds_toArray, List.set_cons_succ, List.set_cons_zero]
          refine wpAnyH_take (i := 8) (v := ?_) rfl (by kernel_rfl) (by kernel_rfl) (by kernel_rfl) (fun _ _ _ h => h) (Or.inl ⟨by rfl, ?_⟩) hS ?_
          rotate_left
          · (intro wq hSw; obtain ⟨q1, q2, q3, q4⟩ := hSw; go_simp; try with_reducible rfl)
          simp only [List.getElem_toArray, List.getElem_cons_succ, List.getElem_cons_zero, Act.put, List.setIfInBounds_toArray, List.set_cons_succ, List.set_cons_zero]
          refine wpAnyH_take (i := 9) (v := ?_) rfl (by kernel_rfl) (by kernel_rfl) (by kernel_rfl) (fun _ _ _ h => h) (Or.inl ⟨by rfl, ?_⟩) hS ?_
          rotate_left
          · (intro wq hSw; obtain ⟨q1, q2, q3, q4⟩ := hSw; go_simp; try with_reducible rfl)
          simp only [List.getElem_toArray, List.getElem_cons_succ, List.getElem_cons_zero, Act.put, List.setIfInBounds_toArray, List.set_cons_succ, List.set_cons_zero]
          refine wpAnyH_take (i := 10) (v := ?_) rfl (by kernel_rfl) (by kernel_rfl) (by kernel_rfl) (fun _ _ _ h => h) (Or.inl ⟨by rfl, ?_⟩) hS ?_
          rotate_left
          · (intro wq hSw; obtain ⟨q1, q2, q3, q4⟩ := hSw; go_simp; try with_reducible rfl)
          simp only [List.getElem_toArray, List.getElem_cons_succ, List.getElem_cons_zero, Act.put, List.setIfInBounds_toArray, List.set_cons_succ, List.set_cons_zero]
          refine wpAnyH_take (i := 11) (v := ?_) rfl (by kernel_rfl) (by kernel_rfl) (by kernel_rfl) (fun _ _ _ h => h) (Or.inl ⟨by rfl, ?_⟩) hS ?_
          rotate_left
          · (intro wq hSw; obtain ⟨q1, q2, q3, q4⟩ := hSw; go_simp; try with_reducible rfl)
          simp only [List.getElem_toArray, List.getElem_cons_succ, List.getElem_cons_zero, Act.put, List.setIfInBounds_toArray, List.set_cons_succ, List.set_cons_zero]
          refine wpAnyH_take (i := 12) (v := ?_) rfl (by kernel_rfl) (by kernel_rfl) (by kernel_rfl) (fun _ _ _ h => h) (Or.inl ⟨by rfl, ?_⟩) hS ?_
          rotate_left
          · (intro wq hSw; obtain ⟨q1, q2, q3, q4⟩ := hSw; go_simp; try with_reducible rfl)
          simp only [List.getElem_toArray, List.getElem_cons_succ, List.getElem_cons_zero, Act.put, List.setIfInBounds_toArray, List.set_cons_succ, List.set_cons_zero]
          refine wpAnyH_take (i := 13) (v := ?_) rfl (by kernel_rfl) (by kernel_rfl) (by kernel_rfl) (fun _ _ _ h => h) (Or.inl ⟨by rfl, ?_⟩) hS ?_
          rotate_left
          · (intro wq hSw; obtain ⟨q1, q2, q3, q4⟩ := hSw; go_simp; try with_reducible rfl)
          simp only [List.getElem_toArray, List.getElem_cons_succ, List.getElem_cons_zero, Act.put, List.setIfInBounds_toArray, List.set_cons_succ, List.set_cons_zero]
          refine wpAnyH_take (i := 14) (v := ?_) rfl (by kernel_rfl) (by kernel_rfl) (by kernel_rfl) (fun _ _ _ h => h) (Or.inl ⟨by rfl, ?_⟩) hS ?_
          rotate_left
          · (intro wq hSw; obtain ⟨q1, q2, q3, q4⟩ := hSw; go_simp; try with_reducible rfl)
          simp only [List.getElem_toArray, List.getElem_cons_succ, List.getElem_cons_zero, Act.put, List.setIfInBounds_toArray, List.set_cons_succ, List.set_cons_zero]
          refine wpAnyH_take (i := 15) (v := ?_) rfl (by kernel_rfl) (by kernel_rfl) (by kernel_rfl) (fun _ _ _ h => h) (Or.inl ⟨by rfl, ?_⟩) hS ?_
          rotate_left
          · (intro wq hSw; obtain ⟨q1, q2, q3, q4⟩ := hSw; go_simp; try with_reducible rfl)
          simp only [List.getElem_toArray, List.getElem_cons_succ, List.getElem_cons_zero, Act.put, List.setIfInBounds_toArray, List.set_cons_succ, List.set_cons_zero]
          refine wpAnyH_take (i := 16) (v := ?_) rfl (by kernel_rfl) (by kernel_rfl) (by kernel_rfl) (fun _ _ _ h => h) (Or.inl ⟨by rfl, ?_⟩) hS ?_
          rotate_left
          · (intro wq hSw; obtain ⟨q1, q2, q3, q4⟩ := hSw; go_simp; try with_reducible rfl)
          simp only [List.getElem_toArray, List.getElem_cons_succ, List.getElem_cons_zero, Act.put, List.setIfInBounds_toArray, List.set_cons_succ, List.set_cons_zero]
          refine wpAnyH_take (i := 17) (v := ?_) rfl (by kernel_rfl) (by kernel_rfl) (by kernel_rfl) (fun _ _ _ h => h) (Or.inl ⟨by rfl, ?_⟩) hS ?_
          rotate_left
          · (intro wq hSw; obtain ⟨q1, q2, q3, q4⟩ := hSw; go_simp; try with_reducible rfl)
          simp only [List.getElem_toArray, List.getElem_cons_succ, List.getElem_cons_zero, Act.put, List.setIfInBounds_toArray, List.set_cons_succ, List.set_cons_zero]
          refine wpAnyH_take (i := 18) (v := ?_) rfl (by kernel_rfl) (by kernel_rfl) (by kernel_rfl) (fun _ _ _ h => h) (Or.inl ⟨by rfl, ?_⟩) hS ?_
          rotate_left
          · (intro wq hSw; obtain ⟨q1, q2, q3, q4⟩ := hSw; go_simp; try with_reducible rfl)
          simp only [List.getElem_toArray, List.getElem_cons_succ, List.getElem_cons_zero, Act.put, List.setIfInBounds_toArray, List.set_cons_succ, List.set_cons_zero]
          refine wpAnyH_take (i := 19) (v := ?_) rfl (by kernel_rfl) (by kernel_rfl) (by kernel_rfl) (fun _ _ _ h => h) (Or.inl ⟨by rfl, ?_⟩) hS ?_
          rotate_left
          · (intro wq hSw; obtain ⟨q1, q2, q3, q4⟩ := hSw; go_simp; try with_reducible rfl)
          simp only [List.getElem_toArray, List.getElem_cons_succ, List.getElem_cons_zero, Act.put, List.setIfInBounds_toArray, List.set_cons_succ, List.set_cons_zero]
          refine wpAnyH_take (i := 20) (v := ?_) rfl (by kernel_rfl) (by kernel_rfl) (by kernel_rfl) (fun _ _ _ h => h) (Or.inl ⟨by rfl, ?_⟩) hS ?_
          rotate_left
          · (intro wq hSw; obtain ⟨q1, q2, q3, q4⟩ := hSw; go_simp; try with_reducible rfl)
          simp only [List.getElem_toArray, List.getElem_cons_succ, List.getElem_cons_zero, Act.put, List.setIfInBounds_toArray, List.set_cons_succ, List.set_cons_zero]
          refine wpAnyH_ready (rs := [21]) (by kernel_rfl) (by simp) ?_
          refine AllReadyH.cons rfl (fun K hK => ?_) AllReadyH.nil
          simp only [List.getElem_toArray, List.getElem_cons_succ, List.getElem_cons_zero]
          go_simp
          refine hK.out _ _ HS2.out (fun hS => ?_)
          clear hK K
          refine wpAnyH_done (by kernel_rfl) ?_ _
          clear hS
          go_wp2_with fail
          go_roundw
          case rel => exact ⟨i + 1, by go_num, by omega, by rw [cutN, if_pos HBJ.out, HGD.out]; exact HR2.out, HF.out.same HF2.out⟩
          case measure => simp [intOf]; omega
        | false =>
          rw [hbj] at hcj
          have HBJ := Lib.hid hbj
          clear hbj
          go_wp2_with fail
          go_roundw
          case rel => exact ⟨i + 1, by go_num, by omega, by rw [cutN, if_neg (by rw [HBJ.out]; exact Bool.false_ne_true)]; exact HR.out, HF.out⟩
          case measure => simp [intOf]; omega
      · have hjd : decide ((i : Int) < (kn : Int)) = false := decide_eq_false (by omega)
        have hjd2 : decide (i < kn) = false := decide_eq_false hjk
        have HBJ : Hid (keep.getD i false = false) := by
          have hl := hkb.1
          show _ = _
          simp [List.getD, List.getElem?_eq_none (show keep.length ≤ i by omega)]
        clear hkb
        go_wp2_with fail
        go_roundw
        case rel => exact ⟨i + 1, by go_num, by omega, by rw [cutN, if_neg (by rw [HBJ.out]; exact Bool.false_ne_true)]; exact HR.out, HF.out⟩
        case measure => simp [intOf]; omega
    · obtain ⟨Ac, cc, hvc, _, _⟩ := hR.c.look
      have hvc : vc = .slice Ac x.cache.length cc := hvc
      have h1d : decide ((i : Int) < (x.cache.length : Int)) = false := decide_eq_false (by omega)
      have h1d2 : decide (i < x.cache.length) = false := decide_eq_false hlt
      have hc1 := hR.b.cell 1
      have hf1 := hR.b.frozen 1
      simp only [rcs, List.getElem?_toArray, List.getElem?_cons_zero, List.getElem?_cons_succ] at hc1
      rw [hvc] at hc1
      obtain ⟨hC, hG⟩ := hR.clear_
      obtain ⟨W, hW⟩ : ∃ W, W = wr.setCell ⟨g, 1, none⟩ (.slice none 0 0) := ⟨_, rfl⟩
      rw [← hW] at hC hG
      have hc2 := hC.b.cell 2
      have hc3 := hC.b.cell 3
      have hf2 := hC.b.frozen 2
      have hf3 := hC.b.frozen 3
      simp only [rcs, List.getElem?_toArray, List.getElem?_cons_zero, List.getElem?_cons_succ] at hc2 hc3
      obtain ⟨hX, hY⟩ := hC.two (d' := { x with kept := cutN x.kept x.cache keep i, cache := [], dark := false, trip := -1 }) 3 2 (.bool false) (.int .i64 (-1)) rfl rfl ⟨hC.ok.pos, hC.ok.few, hC.ok.sec, hC.ok.cac, (by show (-1 : Int) ≤ -1; decide), (by show (-1 : Int) ≤ 9223372036854775807; decide), fun e => by cases e⟩ (by simp [rcs])
      have HI := Lib.hid (show i = x.cache.length by omega)
      have HC : Hid (RAt ((W.setCell ⟨g, 3, none⟩ (.bool false)).setCell ⟨g, 2, none⟩ (.int .i64 (-1))) S T g (x.cut keep)) := by
        refine ⟨vk, .slice none 0 0, ?_⟩
        have := hX
        rw [HI.out] at this
        exact this
      have HZ := Lib.hid ((HF.out.same hG).same hY)
      clear hR hC hG hvc hkb hX hY
      replace hW := hW.symm
      go_wp2_with fail
      refine bodyPost_end (results_none rfl _ _ _) rfl ?_
      exact ⟨rfl, HC.out, HZ.out⟩
end Go.Proofs.Ytjblcligkgjbjaa
