/-
  THE WALK OF Sync.
-/
import Derived.Test.YtjblcligkgjbjaaWalkG
namespace Go.Proofs.Ytjblcligkgjbjaa
open Go.RowKit Go.Sort Go.Maps

set_option maxRecDepth 100000 in
theorem setCells_row {w : World} {g o : Nat} {t : TypeId} {cur : Array Value} (h : Blk w g t cur) (vs : List Value) (hfit : o + vs.length ≤ cur.size) (h1 : ∀ v ∈ vs, v.oneCell' = true) :
    w.setCells g o vs = w.setRow g (cur.toList.take o ++ vs ++ cur.toList.drop (o + vs.length)).toArray := by
  have a1 := run_storeCells_at Try.prog g o t vs 0 cur w h (by simpa using hfit) h1
  have a2 := run_storeCells_cells (P := Try.prog) g o vs 0 w (fun j hj => by rw [h.cell]; simp; omega) (fun j hj => h.frozen _) h1
  simp only [Nat.add_zero] at a1 a2
  rw [a1] at a2
  injection a2 with _ a2
  exact a2.symm
set_option maxRecDepth 100000 in
theorem secs_one (k : List (List Nat)) : ∀ v ∈ secs k, v.oneCell' = true := u8s_one _
section
variable {w w' : World} {S T : Nat → Prop} {g L M : Nat} {d d' : DS} {v : Value} {c c' : Int}
set_option maxRecDepth 100000 in
/-- a sector is set -/
theorem DB.settle (h : DB w S g d L M v c) {a : Nat} (ha : a < d.kept.length) {s : List Nat} (hs : Sec s) :
    DB (w.setCells L (a * 512) (u8s s)) S g { d with kept := d.kept.set a s } L M v c ∧ Fr w (w.setCells L (a * 512) (u8s s)) S := by
  have hl := secs_len h.ok.sec
  have e := setCells_row h.l (o := a * 512) (u8s s) (by rw [List.size_toArray, hl, u8s_length, hs.1]; omega) (u8s_one s)
  rw [u8s_length, hs.1, show (secs d.kept).toArray.toList = secs d.kept from rfl, secs_set h.ok.sec ha s] at e
  rw [e]
  have hh : ∀ x, x ≠ L → (w.setRow L (secs (d.kept.set a s)).toArray).heap[x]? = w.heap[x]? := fun x hx => setRow_other w L x _ hx
  refine ⟨⟨h.sg, h.sl, h.sm, ⟨by simpa using h.ok.pos, by simpa using h.ok.few, ?_, ?_, h.ok.tr1, h.ok.tr2, h.ok.drk⟩, ?_, h.l.row _, ?_, ?_, h.t⟩, (Fr.refl w S).setRow (Or.inl h.sl) _⟩
  · intro y hy
    rcases mem_set hy with hy | rfl
    · exact h.ok.sec y hy
    · exact hs
  · intro y hy
    simpa using h.ok.cac y hy
  · have := (hh g (h.b.ne_ h.l (by decide))).trans h.b
    simpa [dcs, Blk] using this
  · exact h.r.stays fun x hx => hh x fun e => h.r.own_ne h.l (by decide) (e ▸ hx)
  · exact h.m.stays (hh M fun e => h.m.ne_blk h.l e.symm)
end
set_option maxRecDepth 100000 in
theorem u72 : ∃ f, Try.prog.underlying 72 = some (.struct f) := ⟨_, Try.underlying72⟩
set_option maxRecDepth 100000 in
theorem sync_nob (w : World) (p : Option Nat) (h : Nob w p) : Calls Try.prog 24 #[ptr p] w fun e w' => e = .returned (.int .i64 8) ∧ w = w' := by
  have HC := Lib.hid (operate_nob w p h)
  clear h
  go_enter Try.func24, Try.ntmps24
  go_wp2_with (go_at_call 35; refine HC.out.mono ?_; rintro e w' ⟨rfl, rfl⟩)
  go_ret
  exact ⟨rfl, rfl⟩
set_option maxRecDepth 100000 in
theorem sync_dark (w : World) (S : Nat → Prop) (g : Nat) (d : DS) (h : DAt w S g d) (hm : d.may = false) :
    Calls Try.prog 24 #[ptr (some g)] w fun e w' => e = .returned (.int .i64 8) ∧ DAt w' S g d.next ∧ Fr w w' S := by
  have HO := operate_any w S g d h
  rw [hm] at HO
  have HO := Lib.hid HO
  clear h
  go_enter Try.func24, Try.ntmps24
  go_wp2_with (go_at_call 35; refine HO.out.mono ?_; rintro e w1 ⟨rfl, hd1, hf1⟩; have HD := Lib.hid hd1; have HF := Lib.hid hf1; clear hd1 hf1; simp only [errD, Bool.false_eq_true, if_false])
  go_ret
  exact ⟨rfl, HD.out, HF.out⟩
set_option maxRecDepth 100000 in
theorem sync_some (w : World) (S : Nat → Prop) (g : Nat) (d : DS) (h : DAt w S g d) (hm : d.may = true) (hlen : d.cache.length < 1000000) :
    Calls Try.prog 24 #[ptr (some g)] w fun e w' => e = .returned (.int .i64 0) ∧ DAt w' S g d.next.sync ∧ Fr w w' S := by
  have HO := operate_any w S g d h
  rw [hm] at HO
  rw [← next_cache] at hlen
  clear h hm
  generalize d.next = x at *
  have HO := Lib.hid HO
  simp only [ptr, Option.map] at HO ⊢
  go_enter Try.func24, Try.ntmps24
  go_wp2_with fail
  refine HO.out.mono ?_
  rintro e w1 ⟨rfl, hD, hF⟩
  simp only [errD, if_true]
  clear HO
  obtain ⟨L, M, v, c0, h⟩ := hD
  have hok := h.ok
  have hr2 : IntKind.i64.wrap (x.sy + 1) = up x.sy := rfl
  obtain ⟨r', hr'⟩ : ∃ r', r' = up x.sy := ⟨_, rfl⟩
  rw [← hr'] at hr2
  obtain ⟨W, hW⟩ : ∃ W, W = w1.setCell ⟨g, 7, none⟩ (.int .i64 r') := ⟨_, rfl⟩
  obtain ⟨hE, hG⟩ := h.field (d' := { x with sy := up x.sy }) 7 (.int .i64 r') rfl rfl ⟨hok.pos, hok.few, hok.sec, hok.cac, hok.tr1, hok.tr2, hok.drk⟩ (by simp [dcs, hr']) h.t
  rw [← hW] at hE hG
  have hc7 := h.b.cell 7
  have hf7 := h.b.frozen 7
  have hc1 := hE.b.cell 1
  simp only [dcs, List.getElem?_toArray, List.getElem?_cons_zero, List.getElem?_cons_succ] at hc7 hc1
  obtain ⟨Av, cap, rfl⟩ : ∃ Av cap, v = .slice Av x.cache.length cap := by
    rcases hE.r.look with ⟨e, e2⟩ | ⟨g', cap, cur, e, _⟩
    · have e2 : x.cache = [] := e2
      rw [e2]; exact ⟨_, _, e⟩
    · exact ⟨_, _, e⟩
  have HF2 := Lib.hid (hF.same hG)
  obtain ⟨n, hn⟩ : ∃ n, n = x.cache.length := ⟨_, rfl⟩
  have HE := Lib.hid hE
  have HX := Lib.hid hok
  have HN := Lib.hid hn
  rw [← hn] at hc1
  clear hE hG hF h hr' hok
  replace hW := hW.symm
  have hn62 : n < 1000000 := by omega
  rw [← HN.out] at HE
  clear hlen hn
  go_wp2_with fail
  go_loopw [25] (fun u wr => ∃ i : Nat, u = .int .i64 (i : Int) ∧ i ≤ n ∧ DB wr S g { x with sy := up x.sy, kept := setN x.kept x.cache i } L M (.slice Av n cap) c0 ∧ Fr w wr S) (fun u _ => n - (intOf u).toNat)
  case atStart => exact ⟨0, rfl, by omega, HE.out, HF2.out⟩
  case round =>
    obtain ⟨i, rfl, hi, hD, hF⟩ := hrel
    have HDi := Lib.hid hD
    have HFi := Lib.hid hF
    by_cases hlt : i < n
    · have hcs : ∀ y ∈ x.cache, Sec y.2 := fun y hy => (hD.ok.cac y hy).2
      have hln := HN.out
      rcases hD.r.look with ⟨e1, e2⟩ | ⟨G, cap', cur, e1, _, hbG, _, _, _, htk⟩
      · have e2 : x.cache = [] := e2
        rw [e2] at hln
        exact absurd hlt (by rw [hln]; simp)
      replace e1 : Value.slice Av n cap = .slice (some ⟨G, 0, none⟩) x.cache.length cap' := e1
      obtain ⟨rfl, rfl⟩ : Av = some ⟨G, 0, none⟩ ∧ cap = cap' := by injection e1 with e1 e2 e3; exact ⟨e1, e3⟩
      clear e1
      replace htk : cur.toList.take (x.cache.length * 513) = wcs x.cache := htk
      have hp : i < x.cache.length := by rw [← hln]; exact hlt
      have hmem := getD_mem (z := ((0 : Nat), ([] : List Nat))) hp
      have hac := hD.ok.cac _ hmem
      have hrw := rangeAt_wc hbG hcs htk hp
      have hset : setN x.kept x.cache (i + 1) = (setN x.kept x.cache i).set (x.cache.getD i (0, [])).1 (x.cache.getD i (0, [])).2 := rfl
      obtain ⟨ai, si, hq⟩ : ∃ ai si, x.cache.getD i (0, []) = (ai, si) := ⟨_, _, rfl⟩
      rw [hq] at hac hrw hset
      obtain ⟨hai, hsi⟩ := hac
      have hai : ai < (setN x.kept x.cache i).length := hai
      rw [setN_len] at hai
      have hsi : Sec si := hsi
      obtain ⟨Ci, hCi⟩ : ∃ Ci, Ci = (Value.int .i64 (ai : Int) :: u8s si).toArray := ⟨_, rfl⟩
      have hCs : Ci.size = 513 := by rw [hCi]; simp [u8s_length, hsi.1]
      obtain ⟨k, hk⟩ : ∃ k, wr.heap.size = k := ⟨_, rfl⟩
      obtain ⟨Wk, hWk⟩ : ∃ Wk, wr.alloc (.cells Ci 72) = Wk := ⟨_, rfl⟩
      have A1 := Lib.hid hrw
      have A2 := Lib.hid (show (Try.prog.info? 72).map (·.size) = some (Value.int .i64 (ai : Int) :: u8s si).length by rw [size72]; simp [u8s_length, hsi.1])
      have A3 := Lib.hid (show (Try.prog.info? 72).map (·.size) = some Ci.size by rw [size72, hCs])
      have A4 := Lib.hid (show z72.size = Ci.size by rw [z72_size, hCs])
      have A5 := Lib.hid (show Ci.all (·.oneCell') = true by rw [hCi]; exact all_oneCell_toArray (by intro u hu; rcases List.mem_cons.1 hu with rfl | hu; rfl; exact u8s_one si u hu))
      have A6 := Lib.hid (show Blk (wr.alloc (.cells z72 72)) k 72 z72 by rw [← hk]; exact Blk.new wr 72 z72)
      have A7 := Lib.hid (show (wr.alloc (.cells z72 72)).setRow k Ci = Wk by rw [← hk, ← hWk]; exact World.setRow_alloc_new wr z72 Ci 72)
      have A8 := Lib.hid hCi
      have hDk : DB Wk S g { x with sy := up x.sy, kept := setN x.kept x.cache i } L M (.slice (some ⟨G, 0, none⟩) n cap) c0 := by rw [← hWk]; exact hD.keep (T := No) ((Fr.refl wr No).alloc _) fun _ _ hn => hn
      have hFk : Fr w Wk S := by rw [← hWk]; exact hF.alloc _
      have hkb : Blk Wk k 72 Ci := by rw [← hWk, ← hk]; exact Blk.new wr 72 Ci
      have hg0 := hDk.b.cell 0
      have hk0 := hkb.cell 0
      have hkr : Wk.rangeAt k 1 (u8s si) := fun j u hj => by rw [hkb.cell, hCi]; simpa [Nat.add_comm] using hj
      rw [hCi] at hk0
      simp only [dcs, List.getElem?_toArray, List.getElem?_cons_zero, setN_len] at hg0 hk0
      have hth : Wk.there L (ai * 512) 512 := fun j hj => by
        rw [hDk.l.cell]
        refine ⟨?_, hDk.l.frozen _⟩
        have hl : (secs (setN x.kept x.cache i)).length = (setN x.kept x.cache i).length * 512 := secs_len hDk.ok.sec
        rw [setN_len] at hl
        have hl2 : ai * 512 + j < (secs (setN x.kept x.cache i)).length := by rw [hl]; omega
        rw [List.getElem?_toArray, List.getElem?_eq_getElem hl2]
        rfl
      -- behind the store
      obtain ⟨hD8, hF8⟩ := DB.settle (hDk.keep (T := No) (Fr.refl Wk No).drew fun _ _ hn => hn) (a := ai) (by simpa [setN_len] using hai) hsi
      have hg0' := hD8.b.cell 0
      simp only [dcs, List.getElem?_toArray, List.getElem?_cons_zero, List.length_set, setN_len] at hg0'
      have hkb8 : Blk (Wk.drew.setCells L (ai * 512) (u8s si)) k 72 Ci := by
        have e := setCells_row (w := Wk.drew) hDk.l.drew (o := ai * 512) (u8s si) (by
          have hl : (secs (setN x.kept x.cache i)).length = (setN x.kept x.cache i).length * 512 := secs_len hDk.ok.sec
          rw [setN_len] at hl
          rw [List.size_toArray, hl, u8s_length, hsi.1]; omega) (u8s_one si)
        rw [e]
        exact hkb.drew.rowFar (hkb.ne_ hDk.l (by decide)) _
      have hk0' := hkb8.cell 0
      rw [hCi] at hk0'
      simp only [List.getElem?_toArray, List.getElem?_cons_zero] at hk0'
      have hkr' : (Wk.drew.setCells L (ai * 512) (u8s si)).rangeAt k 1 (u8s si) := fun j u hj => by rw [hkb8.cell, hCi]; simpa [Nat.add_comm] using hj
      have hth' : (Wk.drew.setCells L (ai * 512) (u8s si)).there L (ai * 512) 512 := World.there_setCells (w := Wk.drew) hth _ _ _
      have hg0d : Wk.drew.cell? ⟨g, 0, none⟩ = some (.slice (some ⟨L, 0, none⟩) x.kept.length x.kept.length) := hg0
      have hk0d : Wk.drew.cell? ⟨k, 0, none⟩ = some (.int .i64 (ai : Int)) := hk0
      have hkrd : Wk.drew.rangeAt k 1 (u8s si) := hkr
      have hthd : Wk.drew.there L (ai * 512) 512 := hth
      have hsl : (u8s si).length = 512 := by rw [u8s_length, hsi.1]
      have hs1 := u8s_one si
      have hs9 : (Try.prog.info? 69).map (·.size) = some (u8s si).length := by rw [size69, hsl]
      have hu9 := Try.underlying69
      have hail : (ai : Int) < (x.kept.length : Int) := by omega
      have hin : (i : Int) < (n : Int) := by omega
      have HD8 := Lib.hid hD8
      have HF8 := Lib.hid (hFk.drew.trans hF8 fun _ hb => Or.inl hb)
      have HS := Lib.hid hset
      have B1 := Lib.hid hg0'
      have B2 := Lib.hid hk0'
      have B3 := Lib.hid hkr'
      have B4 := Lib.hid hth'
      have B5 := Lib.hid hkrd
      have B6 := Lib.hid hthd
      have B7 := Lib.hid hs9
      have B8 := Lib.hid hs1
      have B9 := Lib.hid hsl
      have hWn : IntKind.i64.wrap ((i : Int) + 1) = ((i + 1 : Nat) : Int) := by rw [IntWalk.i64_in _ (by omega)]; omega
      clear hg0' hk0' hkr' hth' hkrd hthd hs9 hs1 hsl hset hD8 hF8 hkb8 hth hkr hkb hFk hDk hCs hCi hq hsi hai hrw hmem htk hbG hcs hD hF hln hp hg0 hk0
      go_upto_region 7 with fail
      iterate 4 go_step
      refine wpList_load_mid rfl 72 (.tmp 27) rfl G (i * 513) rfl _ _ A1.out Try.underlying72 rfl A2.out ?_
      rw [← A8.out]
      refine wpList_alloc rfl 72 rfl z72 zero72' ?_
      go_frame
      rw [hk]
      refine wpList_store_row rfl 72 (.tmp 5) (.tmp 28) rfl k Ci rfl rfl 72 z72 A6.out A3.out A4.out A5.out ?_
      rw [A7.out]
      clear A1 A2 A3 A4 A5 A6 A7 hk hWk
      go_upto_region 8 with fail
      have hs9 := B7.out
      have hs1 := B8.out
      have hsl := B9.out
      have hkrd := B5.out
      have hthd := B6.out
      have hg0' := B1.out
      have hk0' := B2.out
      have hkr' := B3.out
      have hth' := B4.out
      go_region_held3 (fun w' => w'.cell? ⟨g, 0, none⟩ = some (.slice (some ⟨L, 0, none⟩) x.kept.length x.kept.length) ∧ w'.cell? ⟨k, 0, none⟩ = some (.int .i64 (ai : Int)) ∧ w'.rangeAt k 1 (u8s si) ∧ w'.there L (ai * 512) 512) (exact ⟨by assumption, by assumption, by assumption, by assumption⟩) (fail)
      go_wp2
      go_roundw
      case rel => exact ⟨i + 1, by go_num, by omega, by rw [HS.out]; exact HD8.out, HF8.out⟩
      case measure => simp [intOf]; omega
    · obtain rfl : i = n := by omega
      have HM := Lib.hid (empty_any wr S g _ ⟨L, M, _, c0, hD⟩)
      have e : { x with sy := up x.sy, kept := setN x.kept x.cache i, cache := [] } = x.sync := by rw [HN.out]; rfl
      have HQ := Lib.hid e
      clear hD hF e
      simp only [ptr, Option.map] at HM
      go_wp2_with fail
      refine HM.out.mono ?_
      rintro e w2 ⟨rfl, hd2, hf2⟩
      have HD2 := Lib.hid hd2
      have HF3 := Lib.hid hf2
      clear hd2 hf2
      go_wp2
      go_ret
      refine ⟨rfl, ?_, HFi.out.trans HF3.out fun _ hb => Or.inl hb⟩
      rw [← HQ.out]
      exact HD2.out
end Go.Proofs.Ytjblcligkgjbjaa
