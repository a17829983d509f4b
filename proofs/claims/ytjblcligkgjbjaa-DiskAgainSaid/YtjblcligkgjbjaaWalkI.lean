/-
  THE WALK OF Cut.
-/
import Derived.Test.YtjblcligkgjbjaaWalkH
namespace Go.Proofs.Ytjblcligkgjbjaa
open Go.RowKit Go.Sort Go.Maps

/-- The slice '.slice A n c' reads as the bools l; they lie in one of the blocks of S. -/
def KB (w : World) (S : Nat → Prop) (A : Option Addr) (n : Nat) (l : List Bool) : Prop :=
  l.length = n ∧ (0 < n → ∃ ad, A = some ad ∧ ad.block < w.heap.size ∧ S ad.block ∧ ∀ j, j < n → w.cell? (ad.add j) = some (.bool (l.getD j false)))
section
variable {w w' : World} {A : Option Addr} {n : Nat} {l : List Bool} {S T : Nat → Prop}
set_option maxRecDepth 100000 in
theorem KB.nil_ : KB w S A 0 [] := ⟨rfl, fun h => absurd h (by omega)⟩
set_option maxRecDepth 100000 in
theorem KB.move (h : KB w S A n l) (hs : w.heap.size ≤ w'.heap.size) (hk : ∀ p : Addr, p.block < w.heap.size → S p.block → w'.cell? p = w.cell? p) : KB w' S A n l := by
  obtain ⟨h1, h3⟩ := h
  refine ⟨h1, fun hn => ?_⟩
  obtain ⟨ad, e, hb, hS, hc⟩ := h3 hn
  exact ⟨ad, e, by omega, hS, fun j hj => (hk _ (by rw [block_of_add]; exact hb) (by rw [block_of_add]; exact hS)).trans (hc j hj)⟩
set_option maxRecDepth 100000 in
theorem KB.keep (h : KB w S A n l) (hf : Fr w w' T) (hd : ∀ b, S b → ¬ T b) : KB w' S A n l := h.move hf.size fun _ hp hS => World.cell?_of_block (hf.block _ hp (hd _ hS))
set_option maxRecDepth 100000 in
theorem KB.mono (h : KB w S A n l) (hd : ∀ b, b < w.heap.size → S b → T b) : KB w T A n l := by
  obtain ⟨h1, h3⟩ := h
  refine ⟨h1, fun hn => ?_⟩
  obtain ⟨ad, e, hb, hS, hc⟩ := h3 hn
  exact ⟨ad, e, hb, hd _ hb hS, hc⟩
set_option maxRecDepth 100000 in
theorem KB.alloc (h : KB w S A n l) (o : Obj) : KB (w.alloc o) S A n l := h.move (by simp) fun p hp _ => World.cell?_alloc_lt w o p hp
end
set_option maxRecDepth 100000 in
theorem cutN_stop (k : List (List Nat)) (c : List (Nat × List Nat)) (keep : List Bool) {m : Nat} (hm : keep.length ≤ m) : ∀ n, m ≤ n → cutN k c keep n = cutN k c keep m
  | 0, h => by rw [Nat.le_zero.1 h]
  | n + 1, h => by
    rcases Nat.lt_or_ge m (n + 1) with hlt | hge
    · have : keep.getD n false = false := by simp [List.getElem?_eq_none (show keep.length ≤ n by omega)]
      rw [cutN, this, if_neg (by simp)]
      exact cutN_stop k c keep hm n (by omega)
    · rw [show m = n + 1 by omega]
set_option maxRecDepth 100000 in
theorem cut_nob (w : World) (p : Option Nat) (h : Nob w p) (A : Option Addr) (n c : Nat) : Calls Try.prog 25 #[ptr p, .slice A n c] w fun e w' => e = .returned (.tuple #[]) ∧ w = w' := by
  have HC := Lib.hid (has_nob w p h 0)
  clear h
  go_enter Try.func25, Try.ntmps25
  go_wp2_with (go_at_call 34; refine HC.out.mono ?_; rintro e w' ⟨rfl, rfl⟩)
  refine bodyPost_ret (results_none rfl _ _ _) rfl ?_
  exact ⟨rfl, rfl⟩
set_option maxRecDepth 100000 in
theorem cut_any (w : World) (S : Nat → Prop) (g : Nat) (x : DS) (h : DAt w S g x) (T : Nat → Prop) (K : Option Addr) (kn kc : Nat) (keep : List Bool) (hkb : KB w T K kn keep) (hT : ∀ y, T y → ¬ S y)
    (hlen : x.cache.length < 1000000) (hkn : kn < 1000000) :
    Calls Try.prog 25 #[ptr (some g), .slice K kn kc] w fun e w' => e = .returned (.tuple #[]) ∧ DAt w' S g (x.cut keep) ∧ Fr w w' S := by
  have HC := has0 w S g x h
  obtain ⟨L, M, v, c0, hE⟩ := h
  have hok := hE.ok
  have hc1 := hE.b.cell 1
  simp only [dcs, List.getElem?_toArray, List.getElem?_cons_zero, List.getElem?_cons_succ] at hc1
  have hvv : v = .slice none 0 0 ∧ x.cache = [] ∨ ∃ G cap, v = .slice (some ⟨G, 0, none⟩) x.cache.length cap ∧ x.cache.length ≤ cap ∧ cap ≤ maxLen := by
    rcases hE.r.look with ⟨e, e2⟩ | ⟨G, cap, cur, e, _, _, h1, h2, _⟩
    · exact Or.inl ⟨e, e2⟩
    · exact Or.inr ⟨G, cap, e, h1, h2⟩
  obtain ⟨n, hn⟩ : ∃ n, n = x.cache.length := ⟨_, rfl⟩
  obtain ⟨m, hm⟩ : ∃ m, m = min kn n := ⟨_, rfl⟩
  have hmn : m ≤ n := by omega
  have hmk : m ≤ kn := by omega
  have hkl := hkb.1
  have hfin : cutN x.kept x.cache keep m = cutN x.kept x.cache keep n := by
    rcases Nat.lt_or_ge kn n with h1 | h1
    · exact (cutN_stop x.kept x.cache keep (by omega) n hmn).symm
    · rw [show m = n by omega]
  obtain ⟨Av, cap, rfl, hcap, hslice⟩ : ∃ Av cap, v = .slice Av n cap ∧ n ≤ cap ∧ (Av = none ∧ cap = 0 ∨ ∃ G, Av = some ⟨G, 0, none⟩) := by
    rcases hvv with ⟨e, e2⟩ | ⟨G, cap, e, h1, h2⟩
    · have : n = 0 := by rw [hn, e2]; rfl
      exact ⟨none, 0, by rw [e, this], by omega, Or.inl ⟨rfl, rfl⟩⟩
    · exact ⟨_, cap, by rw [e, hn], by omega, Or.inr ⟨G, rfl⟩⟩
  have HE := Lib.hid hE
  have HX := Lib.hid hok
  have HN := Lib.hid hn
  have HK := Lib.hid hkb
  have HFIN := Lib.hid hfin
  have HC := Lib.hid HC
  have hn62 : n < 1000000 := by omega
  have hT := Lib.hid hT
  have hmin : (if n < kn then (n : Int) else (kn : Int)) = (m : Int) := by split <;> omega
  clear hE hok hkb hfin hvv hlen hm hn
  simp only [ptr, Option.map] at HC ⊢
  have hmc : m ≤ cap := by omega
  have hmw : IntKind.i64.wrap (m : Int) = (m : Int) := IntWalk.i64_in _ (by omega)
  have hmc2 : (m : Int) ≤ (cap : Int) := by omega
  have hm0 : (0 : Int) ≤ (m : Int) := by omega
  rcases hslice with ⟨rfl, rfl⟩ | ⟨G, rfl⟩
  · have hn0 : n = 0 := by omega
    subst hn0
    have hm00 : m = 0 := by omega
    subst hm00
    have hmin2 : (if 0 < kn then (0 : Int) else (kn : Int)) = 0 := by split <;> omega
    clear hmin hmw hmc2 hm0 hmc hmk hmn hcap hn62 hkl
    go_enter Try.func25, Try.ntmps25
    go_wp2_with fail
    refine HC.out.mono ?_
    rintro e w1 ⟨rfl, rfl⟩
    go_upto_region 1 with fail
    have hc1d : w.drew.cell? ⟨g, 1, none⟩ = some (.slice none 0 0) := hc1
    go_region
    obtain ⟨W, hW⟩ : ∃ W, W = w.drew := ⟨_, rfl⟩
    have HD0 := Lib.hid (show DB W S g x L M (.slice none 0 0) c0 by rw [hW]; exact HE.out.keep (T := No) (Fr.refl w No).drew fun _ _ hn => hn)
    have HF0 := Lib.hid (show Fr w W S by rw [hW]; exact (Fr.refl w S).drew)
    rw [← hW]
    clear hW hc1d
    go_wp2_with fail
    go_loopw [23] (fun u wr => u = .int .i64 0 ∧ DB wr S g { x with kept := cutN x.kept x.cache keep 0 } L M (.slice none 0 0) c0 ∧ Fr w wr S) (fun u _ => 0)
    case atStart => exact ⟨rfl, HD0.out, HF0.out⟩
    case round =>
      obtain ⟨rfl, hD, hF⟩ := hrel
      have HFi := Lib.hid hF
      have HM := Lib.hid (empty_any wr S g _ ⟨L, M, _, c0, hD⟩)
      have HQ : Hid (cutN x.kept x.cache keep 0 = cutN x.kept x.cache keep x.cache.length) := by rw [← HN.out]; exact Lib.hid rfl
      clear hD hF
      simp only [ptr, Option.map] at HM
      go_wp2_with fail
      refine HM.out.mono ?_
      rintro e w2 ⟨rfl, ⟨L2, M2, v2, c2, hd2⟩, hf2⟩
      have ok2 : DS.Ok (x.cut keep) := HX.out.cut keep
      obtain ⟨hD3, hF3⟩ := hd2.two (d' := x.cut keep) (c' := -1) 4 3 (.bool false) (.int .i64 (-1)) (by simp only [DS.cut]; rw [HQ.out]) rfl ok2 (by simp [dcs, DS.cut, cutN_len]) (fun _ => rfl)
      have hz3 := hd2.b.frozen 3
      have hz4 := hd2.b.frozen 4
      have hq3 := hd2.b.cell 3
      have hq4 := hd2.b.cell 4
      simp only [dcs, List.getElem?_toArray, List.getElem?_cons_zero, List.getElem?_cons_succ] at hq3 hq4
      have HD3 := Lib.hid hD3
      have HF3 := Lib.hid ((HFi.out.trans hf2 fun _ hb => Or.inl hb).trans hF3 fun _ hb => Or.inl hb)
      clear hd2 hf2 hD3 hF3 ok2
      go_wp2
      refine bodyPost_end (results_none rfl _ _ _) rfl ?_
      exact ⟨rfl, ⟨_, _, _, _, HD3.out⟩, HF3.out⟩
  go_enter Try.func25, Try.ntmps25
  go_wp2_with fail
  refine HC.out.mono ?_
  rintro e w1 ⟨rfl, rfl⟩
  go_upto_region 1 with fail
  have hc1d : w.drew.cell? ⟨g, 1, none⟩ = some (.slice (some ⟨G, 0, none⟩) n cap) := hc1
  go_region
  have hn63 : (0 : Int) ≤ (m : Int) := hm0
  obtain ⟨W, hW⟩ : ∃ W, W = w.drew := ⟨_, rfl⟩
  have HD0 := Lib.hid (show DB W S g x L M (.slice (some ⟨G, 0, none⟩) n cap) c0 by rw [hW]; exact HE.out.keep (T := No) (Fr.refl w No).drew fun _ _ hn => hn)
  have HF0 := Lib.hid (show Fr w W S by rw [hW]; exact (Fr.refl w S).drew)
  rw [← hW]
  clear hW hc1d
  go_wp2_with fail
  go_loopw [23] (fun u wr => ∃ i : Nat, u = .int .i64 (i : Int) ∧ i ≤ m ∧ DB wr S g { x with kept := cutN x.kept x.cache keep i } L M (.slice (some ⟨G, 0, none⟩) n cap) c0 ∧ Fr w wr S) (fun u _ => m - (intOf u).toNat)
  case atStart => exact ⟨0, rfl, by omega, HD0.out, HF0.out⟩
  case round =>
    obtain ⟨i, rfl, hi, hD, hF⟩ := hrel
    have HDi := Lib.hid hD
    have HFi := Lib.hid hF
    have HKi := Lib.hid (HK.out.keep hF hT.out)
    by_cases hlt : i < m
    · have hcs : ∀ y ∈ x.cache, Sec y.2 := fun y hy => (hD.ok.cac y hy).2
      have hln := HN.out
      rcases hD.r.look with ⟨e1, e2⟩ | ⟨G', cap', cur, e1, _, hbG, _, _, _, htk⟩
      · cases e1
      obtain ⟨rfl, rfl⟩ : G = G' ∧ cap = cap' := by injection e1 with e1 e2 e3; injection e1 with e1; injection e1 with e1; exact ⟨e1, e3⟩
      clear e1
      replace htk : cur.toList.take (x.cache.length * 513) = wcs x.cache := htk
      have hp : i < x.cache.length := by rw [← hln]; omega
      have hmem := getD_mem (z := ((0 : Nat), ([] : List Nat))) hp
      have hac := hD.ok.cac _ hmem
      have hrw := rangeAt_wc hbG hcs htk hp
      have hset : cutN x.kept x.cache keep (i + 1) = if keep.getD i false then (cutN x.kept x.cache keep i).set (x.cache.getD i (0, [])).1 (x.cache.getD i (0, [])).2 else cutN x.kept x.cache keep i := rfl
      obtain ⟨ai, si, hq⟩ : ∃ ai si, x.cache.getD i (0, []) = (ai, si) := ⟨_, _, rfl⟩
      rw [hq] at hac hrw hset
      obtain ⟨hai, hsi⟩ := hac
      have hai : ai < (cutN x.kept x.cache keep i).length := hai
      rw [cutN_len] at hai
      have hsi : Sec si := hsi
      obtain ⟨Ci, hCi⟩ : ∃ Ci, Ci = (Value.int .i64 (ai : Int) :: u8s si).toArray := ⟨_, rfl⟩
      have hCs : Ci.size = 513 := by rw [hCi]; simp [u8s_length, hsi.1]
      obtain ⟨k, hk⟩ : ∃ k, wr.heap.size = k := ⟨_, rfl⟩
      obtain ⟨Wk, hWk⟩ : ∃ Wk, wr.alloc (.cells Ci 72) = Wk := ⟨_, rfl⟩
      have A1 := Lib.hid hrw
      have A2 := Lib.hid (show (Try.prog.info? 72).map (·.size) = some (Value.int .i64 (ai : Int) :: u8s si).length by rw [size72]; simp [u8s_length, hsi.1])
      have A3 := Lib.hid (show (Try.prog.info? 72).map (·.size) = some Ci.size by rw [size72, hCs])
      have A4 := Lib.hid (show z72.size = Ci.size by rw [z72_size, hCs])
      have A5 := Lib.hid (show Ci.all (·.oneCell') = true by rw [hCi]; exact all_oneCell_toArray (by intro u hu; rcases List.mem_cons.1 hu with rfl | hu; rfl; exact u8s_one si u hu))
      have A6 := Lib.hid (show Blk (wr.alloc (.cells z72 72)) k 72 z72 by rw [← hk]; exact Blk.new wr 72 z72)
      have A7 := Lib.hid (show (wr.alloc (.cells z72 72)).setRow k Ci = Wk by rw [← hk, ← hWk]; exact World.setRow_alloc_new wr z72 Ci 72)
      have A8 := Lib.hid hCi
      have hDk : DB Wk S g { x with kept := cutN x.kept x.cache keep i } L M (.slice (some ⟨G, 0, none⟩) n cap) c0 := by rw [← hWk]; exact hD.keep (T := No) ((Fr.refl wr No).alloc _) fun _ _ hn => hn
      have hFk : Fr w Wk S := by rw [← hWk]; exact hF.alloc _
      have hkb : Blk Wk k 72 Ci := by rw [← hWk, ← hk]; exact Blk.new wr 72 Ci
      have hg0 := hDk.b.cell 0
      have hk0 := hkb.cell 0
      have hkr : Wk.rangeAt k 1 (u8s si) := fun j u hj => by rw [hkb.cell, hCi]; simpa [Nat.add_comm] using hj
      rw [hCi] at hk0
      simp only [dcs, List.getElem?_toArray, List.getElem?_cons_zero, cutN_len] at hg0 hk0
      have hth : Wk.there L (ai * 512) 512 := fun j hj => by
        rw [hDk.l.cell]
        refine ⟨?_, hDk.l.frozen _⟩
        have hl : (secs (cutN x.kept x.cache keep i)).length = (cutN x.kept x.cache keep i).length * 512 := secs_len hDk.ok.sec
        rw [cutN_len] at hl
        have hl2 : ai * 512 + j < (secs (cutN x.kept x.cache keep i)).length := by rw [hl]; omega
        rw [List.getElem?_toArray, List.getElem?_eq_getElem hl2]
        rfl
      -- behind the store
      obtain ⟨hD8, hF8⟩ := DB.settle (hDk.keep (T := No) (Fr.refl Wk No).drew fun _ _ hn => hn) (a := ai) (by simpa [cutN_len] using hai) hsi
      have hg0' := hD8.b.cell 0
      simp only [dcs, List.getElem?_toArray, List.getElem?_cons_zero, List.length_set, cutN_len] at hg0'
      have hkb8 : Blk (Wk.drew.setCells L (ai * 512) (u8s si)) k 72 Ci := by
        have e := setCells_row (w := Wk.drew) hDk.l.drew (o := ai * 512) (u8s si) (by
          have hl : (secs (cutN x.kept x.cache keep i)).length = (cutN x.kept x.cache keep i).length * 512 := secs_len hDk.ok.sec
          rw [cutN_len] at hl
          rw [List.size_toArray, hl, u8s_length, hsi.1]; omega) (u8s_one si)
        rw [e]
        exact hkb.drew.rowFar (hkb.ne_ hDk.l (by decide)) _
      have hk0' := hkb8.cell 0
      rw [hCi] at hk0'
      simp only [List.getElem?_toArray, List.getElem?_cons_zero] at hk0'
      have hkr' : (Wk.drew.setCells L (ai * 512) (u8s si)).rangeAt k 1 (u8s si) := fun j u hj => by rw [hkb8.cell, hCi]; simpa [Nat.add_comm] using hj
      have hth' : (Wk.drew.setCells L (ai * 512) (u8s si)).there L (ai * 512) 512 := World.there_setCells (w := Wk.drew) hth _ _ _
      have hg0d : Wk.drew.cell? ⟨g, 0, none⟩ = some (.slice (some ⟨L, 0, none⟩) x.kept.length x.kept.length) := hg0
      have hk0d : Wk.drew.cell? ⟨k, 0, none⟩ = some (.int .i64 (ai : Int)) := hk0
      have hkrd : Wk.drew.rangeAt k 1 (u8s si) := hkr
      have hthd : Wk.drew.there L (ai * 512) 512 := hth
      have hsl : (u8s si).length = 512 := by rw [u8s_length, hsi.1]
      have hs1 := u8s_one si
      have hs9 : (Try.prog.info? 69).map (·.size) = some (u8s si).length := by rw [size69, hsl]
      have hu9 := Try.underlying69
      have hail : (ai : Int) < (x.kept.length : Int) := by omega
      have hin : (i : Int) < (m : Int) := by omega
      have HD8 := Lib.hid hD8
      have HF8 := Lib.hid (hFk.drew.trans hF8 fun _ hb => Or.inl hb)
      have HS := Lib.hid hset
      have HDk := Lib.hid hDk
      have HFk := Lib.hid hFk
      obtain ⟨kad, rfl, _, _, hkc⟩ := HKi.out.2 (by omega)
      have hik : (i : Int) < (kn : Int) := by omega
      have hkcell : Wk.cell? (kad.add i) = some (.bool (keep.getD i false)) := by rw [← hWk, World.cell?_alloc_lt _ _ _ (block_lt_of_cell (hkc i (by omega)))]; exact hkc i (by omega)
      obtain ⟨bk, hbk⟩ : ∃ bk, bk = keep.getD i false := ⟨_, rfl⟩
      rw [← hbk] at hkcell HS
      clear hbk hkc hDk
      have B1 := Lib.hid hg0'
      have B2 := Lib.hid hk0'
      have B3 := Lib.hid hkr'
      have B4 := Lib.hid hth'
      have B5 := Lib.hid hkrd
      have B6 := Lib.hid hthd
      have B7 := Lib.hid hs9
      have B8 := Lib.hid hs1
      have B9 := Lib.hid hsl
      have hWn : IntKind.i64.wrap ((i : Int) + 1) = ((i + 1 : Nat) : Int) := by rw [IntWalk.i64_in _ (by omega)]; omega
      clear hg0' hk0' hkr' hth' hkrd hthd hs9 hs1 hsl hset hD8 hF8 hkb8 hth hkr hkb hFk hCs hCi hq hsi hai hrw hmem htk hbG hcs hD hF hln hp hg0 hk0
      go_upto_region 3 with fail
      iterate 7 go_step
      refine wpList_load_mid rfl 72 (.tmp 26) rfl G (i * 513) rfl _ _ A1.out Try.underlying72 rfl A2.out ?_
      rw [← A8.out]
      refine wpList_alloc rfl 72 rfl z72 zero72' ?_
      go_frame
      rw [hk]
      iterate 3 go_step
      refine wpList_store_row rfl 72 (.tmp 5) (.tmp 27) rfl k Ci rfl rfl 72 z72 A6.out A3.out A4.out A5.out ?_
      rw [A7.out]
      clear A1 A2 A3 A4 A5 A6 A7 hk hWk
      cases bk with
      | false =>
        rw [if_neg (by simp)] at HS
        clear B1 B2 B3 B4 B5 B6 B7 B8 B9
        go_wp2
        go_roundw
        case rel => exact ⟨i + 1, by go_num, by omega, by rw [HS.out]; exact HDk.out, HFk.out⟩
        case measure => simp [intOf]; omega
      | true =>
        rw [if_pos rfl] at HS
        go_upto_region 5 with fail
        have hs9 := B7.out
        have hs1 := B8.out
        have hsl := B9.out
        have hkrd := B5.out
        have hthd := B6.out
        have hg0' := B1.out
        have hk0' := B2.out
        have hkr' := B3.out
        have hth' := B4.out
        go_region_held3 (fun w' => w'.cell? ⟨g, 0, none⟩ = some (.slice (some ⟨L, 0, none⟩) x.kept.length x.kept.length) ∧ w'.cell? ⟨k, 0, none⟩ = some (.int .i64 (ai : Int)) ∧ w'.rangeAt k 1 (u8s si) ∧ w'.there L (ai * 512) 512) (exact ⟨by assumption, by assumption, by assumption, by assumption⟩) (fail)
        go_wp2
        go_roundw
        case rel => exact ⟨i + 1, by go_num, by omega, by rw [HS.out]; exact HD8.out, HF8.out⟩
        case measure => simp [intOf]; omega
    · obtain rfl : i = m := by omega
      have HM := Lib.hid (empty_any wr S g _ ⟨L, M, _, c0, hD⟩)
      have HQ := HFIN.out
      rw [HN.out] at HQ
      have HQ := Lib.hid HQ
      clear hD hF
      simp only [ptr, Option.map] at HM
      go_wp2_with fail
      refine HM.out.mono ?_
      rintro e w2 ⟨rfl, ⟨L2, M2, v2, c2, hd2⟩, hf2⟩
      have ok2 : DS.Ok (x.cut keep) := HX.out.cut keep
      obtain ⟨hD3, hF3⟩ := hd2.two (d' := x.cut keep) (c' := -1) 4 3 (.bool false) (.int .i64 (-1)) (by simp only [DS.cut]; rw [HQ.out]) rfl ok2 (by simp [dcs, DS.cut, cutN_len]) (fun _ => rfl)
      have hz3 := hd2.b.frozen 3
      have hz4 := hd2.b.frozen 4
      have hq3 := hd2.b.cell 3
      have hq4 := hd2.b.cell 4
      simp only [dcs, List.getElem?_toArray, List.getElem?_cons_zero, List.getElem?_cons_succ] at hq3 hq4
      have HD3 := Lib.hid hD3
      have HF3 := Lib.hid ((HFi.out.trans hf2 fun _ hb => Or.inl hb).trans hF3 fun _ hb => Or.inl hb)
      clear hd2 hf2 hD3 hF3 ok2
      go_wp2
      refine bodyPost_end (results_none rfl _ _ _) rfl ?_
      exact ⟨rfl, ⟨_, _, _, _, HD3.out⟩, HF3.out⟩
end Go.Proofs.Ytjblcligkgjbjaa
