/- Files on blocks: turn's walk. -/
import Derived.Test.YtejeadccpigepaaTurn
namespace Go.Proofs.Ytejeadccpigepaa.Ino
open Go.RowKit Go.Maps Go.Proofs.Ytejeadccpigepaa
set_option maxRecDepth 100000

structure TrnR (w2 : World) (F : Nat → Prop) (p s : Nat) (S : Sto) (size : Nat) (T T' : List Nat) (L : List Chg) (iv : Value) (wr : World) : Prop where
  ex : ∃ k : Nat, k ≤ L.length ∧ iv = .int .i64 (k : Int) ∧ IsFile wr (grow F w2 wr) p s (putAll S T' (L.take k)) size T ∧ Keep F w2 wr

structure TrfR (w0 : World) (F : Nat → Prop) (p s : Nat) (S : Sto) (size : Nat) (T T' : List Nat) (iv : Value) (wr : World) : Prop where
  ex : ∃ k : Nat, k ≤ 203 ∧ iv = .int .i64 (k : Int) ∧ IsFile wr (grow F w0 wr) p s (S.without (givenL T' T k)) size T ∧ Keep F w0 wr

theorem putAll_snoc (S : Sto) (T' : List Nat) (L : List Chg) (k : Nat) (hk : k < L.length) : putAll S T' (L.take (k + 1)) = if tg T' (L[k].k) = 0 then putAll S T' (L.take k) else { putAll S T' (L.take k) with f := (putAll S T' (L.take k)).set (tg T' (L[k].k)) (some L[k].new) } := by
  rw [List.take_succ_eq_append_getElem hk, putAll_append, putAll, putAll]

/-- A change loaded out of a list. -/
theorem wpList_load_chg_mid {ops : Array Oper} {rest : List Oper} {o : Oper} {a : Act} {w : World} {Q : Exit → Act → World → Prop} (hg : o.guard = none) (x : Operand) (ho : o.op = .load 115 x) (g off : Nat) (c : Chg) (hc : c.Ok) (hx : a.eval x = .pointer (some ⟨g, off, none⟩)) (hS : w.rangeAt g off c.cells)
    (h : wpList Try.prog ops Q rest (a.put o.dst c.v) w) : wpList Try.prog ops Q (o :: rest) a w :=
  wpList_load_mid hg 115 x ho g off hx c.cells _ hS Try.underlying115 rfl (by rw [Chg.cells_length hc]; exact Try.infoChgS) h

/-- A table stored into a file. -/
theorem wpList_store_file {ops : Array Oper} {rest : List Oper} {o : Oper} {a : Act} {w : World} {Q : Exit → Act → World → Prop} (hg : o.guard = none) (x y : Operand) (ho : o.op = .store 56 x y) (p : Nat) (x0 x1 : Value) (T T' : List Nat) (hT : T.length = 203) (hT' : T'.length = 203) {t : TypeId} (hx : a.eval x = .pointer (some ⟨p, 2, none⟩)) (hy : a.eval y = tabV T') (hS : w.heap[p]? = some (.cells (x0 :: x1 :: tabL T).toArray t (0, 0)))
    (h : ∀ w', w'.heap[p]? = some (.cells (x0 :: x1 :: tabL T').toArray t (0, 0)) → Keep (fun b => b = p) w w' → w'.heap.size = w.heap.size → wpList Try.prog ops Q rest (a.put o.dst undef) w') : wpList Try.prog ops Q (o :: rest) a w := by
  have hl : (tabL T).toArray.size = 203 := by rw [List.size_toArray, tabL_length, hT]
  have hl' : (tabL T').toArray.size = 203 := by rw [List.size_toArray, tabL_length, hT']
  refine wpList_store_mid hg 56 x y ho p 2 (tabL T').toArray hx hy (fun j hj => ?_) (by rw [hl']; exact Try.infoTab) (tabL_one T') ?_
  · rw [hl'] at hj
    refine ⟨?_, frozen_of_row _ _ _ _ _ hS⟩
    rw [cell_of_row _ _ _ _ _ _ hS, List.getElem?_toArray, List.getElem?_eq_getElem (by simp only [List.length_cons, tabL_length, hT]; omega)]
    rfl
  · obtain ⟨cur', h1, h2⟩ := splice_heap p (tabL T') 2 w _ _ _ hS (by simp only [List.size_toArray, List.length_cons, tabL_length, hT, hT']; omega)
    have h3 : cur' = (x0 :: x1 :: tabL T').toArray := by
      apply Array.ext'
      rw [h2]
      simp only [Go.splice, List.take_succ_cons, List.take_zero, List.cons_append, List.nil_append]
      rw [List.drop_eq_nil_of_le (by simp only [List.length_cons, tabL_length, hT, hT']; omega), List.append_nil]
    rw [h3] at h1
    exact h _ h1 (keep_setCells p _ _ _ (Keep.refl _ w) (.inl rfl)) (size_setCells p _ _ _)

set_option maxHeartbeats 2000000 in
theorem turn_any {w : World} {F : Nat → Prop} {p s : Nat} {S : Sto} {size : Nat} {T T' : List Nat} (h : IsFile w F p s S size T) (hT' : T'.length = 203) (hf' : ∀ x ∈ T', x < 4294967296) (sz : Nat) {v : Value} {l : List Chg} (hC : ChgsAt w v l) (hll : l.length ≤ 60000) (hv : ∀ x, v.ownBlock = some x → ¬ F x ∧ x ≠ p)
    (hp : ∀ c ∈ l ++ pagedL T T' 203, tg T' c.k ≠ 0 → S.f (tg T' c.k) ≠ none) (hn : (givenL T' T 203).Nodup) (hm : ∀ x ∈ givenL T' T 203, S.f x ≠ none) :
    Calls Try.prog 44 #[.pointer (some ⟨p, 0, none⟩), .agg (tabL T').toArray, .int .i64 (sz : Int), v] w fun e w' => e = .returned .nilIface ∧ ∃ F', IsFile w' F' p s ((putAll S T' (l ++ pagedL T T' 203)).without (givenL T' T 203)) sz T' ∧ Keep (fun x => F x ∨ x = p ∨ v.ownBlock = some x) w w' ∧ ∀ x, F' x → F x ∨ w.heap.size ≤ x := by
  have H := Lib.hid h; have HC := Lib.hid hC; have HFT := Lib.hid hf'
  have hT := h.len
  obtain ⟨Z, hzt, hzs, hZ⟩ := zTab
  obtain ⟨Y, hzc, hys⟩ := zChg
  have HZC := Lib.hid hzc
  clear hzc
  have HZT := Lib.hid hzt
  clear h hC hzt
  obtain ⟨W, hW⟩ : ∃ W, W = w.alloc (.cells (tabL T').toArray 56) := ⟨_, rfl⟩
  have K0 : Hid (Keep (fun _ => False) w W) := Lib.hid (hW ▸ (Keep.refl _ w).alloc _)
  have R0 : Hid (W.heap[w.heap.size]? = some (.cells (tabL T').toArray 56 (0, 0)) ∧ W.heap.size = w.heap.size + 1) := Lib.hid (hW ▸ ⟨heap_alloc_new w _, by simp⟩)
  have HWW := Lib.hid hW
  clear hW
  go_enter Try.func44, Try.ntmps44
  go_wp2_with fail
  rw [← HWW.out]
  have HPG := Lib.hid (paged_any hT hT' H.out.fit hf' ((K0.out.block p H.out.lt.2 (fun h => h)).trans H.out.head) R0.out.1)
  refine HPG.out.mono ?_
  rintro e w1 ⟨vp, rfl, hp1, k1, o1⟩
  have HP1 := Lib.hid hp1; have K1 := Lib.hid k1; have O1 := Lib.hid o1
  clear hp1 k1 o1 HPG
  have HC1 : Hid (ChgsAt w1 v l) := Lib.hid ((HC.out.keep K0.out (fun _ _ h => h)).keep K1.out (fun _ _ h => h))
  have hpl := pagedL_length T T' (Nat.le_refl 203)
  obtain ⟨L, hL⟩ : ∃ L, L = l ++ pagedL T T' 203 := ⟨_, rfl⟩
  have HLL := Lib.hid hL
  have hl3 : L.length ≤ 60003 := by rw [hL, List.length_append]; omega
  rw [← hL] at hp
  have HPP := Lib.hid hp
  have HVO : Hid (∀ x, v.ownBlock = some x → x < w.heap.size ∧ ¬ F x ∧ x ≠ p) := Lib.hid (fun x hx => ⟨HC.out.row.lt hx, hv x hx⟩)
  clear hL hp hv
  go_wp2_with (refine wpList_append_chgs rfl _ _ rfl rfl HC1.out rfl HP1.out (by omega) ?_; intro v2 w2 h2 k2 f2; have h3 : ChgsAt w2 v2 L := HLL.out ▸ h2; have H2 := Lib.hid h3; have K2 := Lib.hid k2; have F2 := Lib.hid f2; obtain ⟨ad, cap, rfl, hcp⟩ := h3.row.slice; clear h2 h3 k2 f2)
  have KW : Hid (Keep (fun x => v.ownBlock = some x) w w2) := Lib.hid (((K0.out.trans K1.out (fun _ h => h.elim)).mono (fun _ _ h => h.elim)).trans K2.out (fun _ h => .inl h))
  have HI0 : Hid (IsFile w2 F p s S size T) := Lib.hid (H.out.keep KW.out (fun e => (HVO.out p e).2.2 rfl) (fun x hx e => (HVO.out x e).2.1 hx))
  have HTB : Hid (w2.heap[w.heap.size]? = some (.cells (tabL T').toArray 56 (0, 0))) := Lib.hid ((K2.out.block _ (by have := K1.out.size; have := R0.out.2; omega) (fun e => by have := (HVO.out _ e).1; omega)).trans ((K1.out.block _ (by have := R0.out.2; omega) (fun h => h)).trans R0.out.1))
  have HLO : Hid (∀ x, (Value.slice ad L.length cap).ownBlock = some x → ¬ F x) := Lib.hid (fun x hx hF => by
    rcases F2.out x hx with h | h
    · exact (HVO.out x h).2.1 hF
    · have := h.1; have := H.out.lt.1 x hF; have := K1.out.size; have := R0.out.2; omega)
  have hFt : ¬ F w.heap.size := fun hx => by have := H.out.lt.1 _ hx; omega
  clear K0 R0 HWW K1 HP1 O1 HC1 K2 F2 HC
  go_loopw [21] (fun i wr => TrnR w2 F p s S size T T' L i wr) (fun i _ => L.length - (intOf i).toNat)
  case atStart => exact ⟨0, by omega, rfl, HI0.out.same, Keep.refl _ w2⟩
  case round =>
    obtain ⟨k, hk, rfl, hI, hK⟩ := hrel.ex
    have HI := Lib.hid hI; have HK := Lib.hid hK
    clear hI hK
    by_cases hlt : k < L.length
    · have hd : decide ((k : Int) < (L.length : Int)) = true := by rw [decide_eq_true_eq]; omega
      obtain ⟨g, o, cap', e, _, _⟩ := H2.out.row.full (by omega)
      simp only [Value.slice.injEq, true_and] at e
      obtain ⟨rfl, rfl⟩ := e
      have HCC := Lib.hid ((H2.out.keep HK.out (HLO.out)).cell k hlt)
      have HOK := Lib.hid (H2.out.ok _ (List.getElem_mem hlt))
      have HSN := Lib.hid (putAll_snoc S T' L k hlt)
      have HPK := Lib.hid (fun h => putAll_some S T' (L.take k) _ (HPP.out _ (List.getElem_mem hlt) h))
      obtain ⟨c, hc⟩ : ∃ c, c = L[k] := ⟨_, rfl⟩
      rw [← hc] at HCC HOK HSN HPK
      clear hc
      have HTW := Lib.hid (tab_cell ((HK.out.block _ (lt_of_block HTB.out) hFt).trans HTB.out) c.k (by have := HOK.out.1; omega))
      have hzc := HZC.out
      go_wp2_with (first | refine wpList_load_chg_mid rfl _ rfl g (o + k * 1025) c HOK.out rfl HCC.out ?_ | (refine wpList_store_chg rfl _ _ rfl wr.heap.size Y c hys HOK.out rfl rfl (heap_alloc_new wr _) ?_; intro w4 h4 k4 s4; have H4 := Lib.hid h4; have K4 := Lib.hid k4; have S4 := Lib.hid s4; clear h4 k4 s4))
      have K5 : Hid (Keep (fun _ => False) wr w4) := Lib.hid (((Keep.refl _ wr).alloc _).trans K4.out (fun x e => .inr (by omega)))
      have HRN := Lib.hid (Chg.range HOK.out H4.out)
      have HI4 : Hid (IsFile w4.drew (grow F w2 wr) p s (putAll S T' (L.take k)) size T) := Lib.hid (HI.out.keep0 K5.out.drew)
      have hlw : w.heap.size < wr.heap.size := by have := lt_of_block HTB.out; have := HK.out.size; omega
      have q1 : w4.cell? ⟨wr.heap.size, 0, none⟩ = some (.int .i64 (c.k : Int)) := by rw [cell_of_row _ _ _ _ _ _ H4.out]; rfl
      have q2 : w4.cell? ⟨w.heap.size, c.k, none⟩ = some (.int .u32 ((tg T' c.k : Nat) : Int)) := (K5.out.cell (b := w.heap.size) hlw (fun h => h) _).trans HTW.out
      have q3 : w4.rangeAt wr.heap.size 513 (bcells c.new) := HRN.out.2
      have hkc := HOK.out.1
      have hj : (0 : Int) ≤ (c.k : Int) ∧ (c.k : Int) < 203 := by omega
      have hu := Try.underlying85
      have hi : (Try.prog.info? 85).map (·.size) = some (bcells c.new).length := by rw [bcells_length, HOK.out.2.2]; exact Try.infoBlk
      have HLN := Lib.hid HOK.out.2.2
      have HNF : Hid (¬ grow F w2 wr wr.heap.size ∧ ¬ grow F w2 wr w.heap.size) := Lib.hid ⟨fun hx => hx.elim (fun hx => by have := H.out.lt.1 _ hx; omega) (fun hx => by omega), fun hx => hx.elim hFt (fun hx => by have := lt_of_block HTB.out; omega)⟩
      go_region_held3 (fun w' => w'.cell? ⟨wr.heap.size, 0, none⟩ = some (.int .i64 (c.k : Int)) ∧ w'.cell? ⟨w.heap.size, c.k, none⟩ = some (.int .u32 ((tg T' c.k : Nat) : Int)) ∧ w'.rangeAt wr.heap.size 513 (bcells c.new)) (go_keep) (first | (go_at_call 55; refine (putk_any HI4.out c.k HPK.out HLN.out).mono ?_; rintro e w5 ⟨rfl, h5, k5⟩; have H5 := Lib.hid h5; have K6 := Lib.hid k5; have q11 : w5.cell? ⟨wr.heap.size, 0, none⟩ = some (.int .i64 (c.k : Int)) := (k5.cell (b := wr.heap.size) (World.block_lt_of_cell? _ _ q1) HNF.out.1 _).trans q1; have q21 : w5.cell? ⟨w.heap.size, c.k, none⟩ = some (.int .u32 ((tg T' c.k : Nat) : Int)) := (k5.cell (b := w.heap.size) (World.block_lt_of_cell? _ _ q2) HNF.out.2 _).trans q2; have q31 : w5.rangeAt wr.heap.size 513 (bcells c.new) := (fun j v hv => (k5.cell (b := wr.heap.size) (World.block_lt_of_cell? _ _ (q3 j v hv)) HNF.out.1 _).trans (q3 j v hv)); clear h5 k5))
      all_goals go_wp2_with fail
      have hs1 := HK.out.size; have hs2 := K5.out.size; have hs3 := K6.out.size
      have hs4 : w4.drew.heap.size = w4.heap.size := rfl
      have HF5 : Hid (IsFile w5 (grow F w2 w5) p s (putAll S T' (L.take (k + 1))) size T) := Lib.hid (by
        rw [HSN.out]
        refine H5.out.wide (fun x hx => ?_) (fun x hx => ?_) (fun hx => ?_)
        · rcases hx with (hx | hx) | hx
          · exact .inl hx
          · exact .inr (by omega)
          · exact .inr (by omega)
        · rcases hx with hx | hx
          · have := HI0.out.lt.1 x hx; omega
          · exact hx.2
        · rcases hx with hx | hx
          · exact H.out.pF hx
          · have := HI0.out.lt.2; omega)
      have HK9 : Hid (Keep F w2 w5) := Lib.hid ((HK.out.trans K5.out.drew (fun _ h => h.elim)).trans K6.out (fun x hx => hx.elim .inl (fun hx => .inr hx.1)))
      go_roundw
      case rel => exact ⟨k + 1, by omega, by go_num, HF5.out, HK9.out⟩
      case measure => simp [intOf]; omega
    · have hd : decide ((k : Int) < (L.length : Int)) = false := by rw [decide_eq_false_iff_not]; omega
      obtain rfl : k = L.length := by omega
      rw [List.take_length] at HI
      clear hlt hd
      have hd : ¬ (L.length : Int) < (L.length : Int) := by omega
      have HR := Lib.hid HI.out.range
      go_wp2_with (refine wpList_load_tab rfl _ rfl p 2 T hT rfl HR.out ?_)
      obtain ⟨wa, hwa⟩ : ∃ wa, wa = wr := ⟨wr, rfl⟩
      subst wr
      obtain ⟨G, hG⟩ : ∃ G : Nat → Prop, G = grow F w2 wa := ⟨_, rfl⟩
      have HGG := Lib.hid hG
      rw [← hG] at HI
      have hGt : ¬ G w.heap.size := by rw [hG]; exact fun hx => hx.elim hFt (fun hx => by have := lt_of_block HTB.out; omega)
      have HTB2 : Hid (wa.heap[w.heap.size]? = some (.cells (tabL T').toArray 56 (0, 0))) := Lib.hid ((HK.out.block _ (lt_of_block HTB.out) hFt).trans HTB.out)
      obtain ⟨S2, hS2⟩ : ∃ S2, S2 = putAll S T' L := ⟨_, rfl⟩
      have hm2 : ∀ x ∈ givenL T' T 203, S2.f x ≠ none := fun x hx => by rw [hS2]; exact putAll_some S T' L x (hm x hx)
      have HS2 := Lib.hid hS2; have HM2 := Lib.hid hm2; have HN2 := Lib.hid hn
      rw [← hS2] at HI
      clear hG hS2 hm2 hm hn
      have H0 : Hid (IsFile wa (grow G wa wa) p s (S2.without (givenL T' T 0)) size T) := Lib.hid (by rw [givenL_zero, Sto.without_nil]; exact HI.out.same)
      have hpG : ¬ G p ∧ p < wa.heap.size := ⟨HI.out.pF, HI.out.lt.2⟩
      go_loopw [48] (fun i w3 => TrfR wa G p s S2 size T T' i w3) (fun i _ => 203 - (intOf i).toNat)
      case atStart => exact ⟨0, by omega, rfl, H0.out, Keep.refl _ wa⟩
      case round =>
        obtain ⟨k, hk, rfl, hI, hK⟩ := hrel.ex
        have HI3 := Lib.hid hI; have HK3 := Lib.hid hK
        clear hI hK
        by_cases hlt : k < 203
        · have hd : decide ((k : Int) < 203) = true := by rw [decide_eq_true_eq]; omega
          have c1 := tab_cell ((HK3.out.block _ (lt_of_block HTB2.out) hGt).trans HTB2.out) k (by omega)
          have hix : ∀ {ops : Array Oper} {rest : List Oper} {o : Oper} {a : Act} {w : World} {Q : Exit → Act → World → Prop}, o.guard = none → ∀ (x y : Operand), o.op = .index 56 x y → a.eval x = .agg (tabL T).toArray → a.eval y = .int .i64 (k : Int) → wpList Try.prog ops Q rest (a.put o.dst (.int .u32 ((tg T k : Nat) : Int))) w → wpList Try.prog ops Q (o :: rest) a w := fun hg x y ho hx hy h => wpList_index_tab hg x y ho T k hlt hT hx hy h
          by_cases h0 : tg T' k = 0
          · by_cases h1 : tg T k = 0
            · have HG := Lib.hid (givenL_skip (T := T') (T' := T) (k := k) (.inr h1))
              rw [h0] at c1
              rw [h1] at hix
              clear h0 h1
              go_wp2_with (first | refine hix rfl _ _ rfl rfl rfl ?_ | (go_at_call 57; refine (free_zero p).mono ?_; rintro e w9 ⟨rfl, k9⟩; have K9 := Lib.hid k9; clear k9))
              go_roundw
              case rel => exact ⟨k + 1, by omega, by go_num, by rw [HG.out]; exact (HI3.out.keep0 K9.out).wide (fun x hx => hx.imp id (fun hx => ⟨hx.1, by have := K9.out.size; omega⟩)) (fun x hx => hx.elim (fun hx => by have := HI3.out.lt.1 x (.inl hx); have := K9.out.size; omega) (fun hx => hx.2)) (fun hx => hx.elim hpG.1 (fun hx => by omega)), HK3.out.trans K9.out (fun _ h => h.elim)⟩
              case measure => simp [intOf]; omega
            · have hst := givenL_step h0 h1
              obtain ⟨m, hm⟩ := givenL_pre T' T (k + 1) (203 - (k + 1))
              rw [show k + 1 + (203 - (k + 1)) = 203 by omega, hst] at hm
              have hnd := HN2.out
              have hmm := HM2.out (tg T k) (by rw [hm]; simp)
              rw [hm] at hnd
              have hni : tg T k ∉ givenL T' T k := fun hx => by
                have := (List.nodup_append.1 (List.nodup_append.1 hnd).1).2.2 _ hx _ (List.mem_singleton.2 rfl)
                exact this rfl
              obtain ⟨l0, hl0⟩ := Option.ne_none_iff_exists'.1 hmm
              have hfr := free_any HI3.out (n := tg T k) (l0 := l0) (by simp [Sto.without, hni, hl0])
              rw [Sto.without_snoc, ← hst] at hfr
              have HFR := Lib.hid hfr
              rw [h0] at c1
              clear hst hm hnd hmm hni hl0 hfr h1 h0
              generalize tg T k = v9 at *
              go_wp2_with (first | refine hix rfl _ _ rfl rfl rfl ?_ | (go_at_call 57; refine HFR.out.mono ?_; rintro e w9 ⟨rfl, h1, k1⟩; have K9 := Lib.hid k1; have H9 := Lib.hid h1; clear k1 h1))
              go_roundw
              case rel => exact ⟨k + 1, by omega, by go_num, H9.out.grown HK3.out.size K9.out.size hpG, keep_grow HK3.out K9.out⟩
              case measure => simp [intOf]; omega
          · have HG := Lib.hid (givenL_skip (T := T') (T' := T) (k := k) (.inl h0))
            have hne : ((tg T' k : Nat) : Int) ≠ 0 := by omega
            clear h0
            generalize tg T' k = v9 at *
            have hb : ((v9 : Int) != 0) = true := by simpa using hne
            go_wp2_with (first | refine hix rfl _ _ rfl rfl rfl ?_)
            go_roundw
            case rel => exact ⟨k + 1, by omega, by go_num, by rw [HG.out]; exact HI3.out, HK3.out⟩
            case measure => simp [intOf]; omega
        · have hd : decide ((k : Int) < 203) = false := by rw [decide_eq_false_iff_not]; omega
          obtain rfl : k = 203 := by omega
          clear hlt
          have HTB3 : Hid (wr.heap[w.heap.size]? = some (.cells (tabL T').toArray 56 (0, 0))) := Lib.hid ((HK3.out.block _ (lt_of_block HTB2.out) hGt).trans HTB2.out)
          go_wp2_with (first | (refine wpList_load_tabV rfl _ rfl w.heap.size 0 T' hT' rfl (tab_range HTB3.out) ?_) | (refine wpList_store_file rfl _ _ rfl p _ _ T T' hT hT' rfl rfl HI3.out.head ?_; intro w9 h9 k9 s9; have H9 := Lib.hid h9; have K9 := Lib.hid k9; have S9 := Lib.hid s9; have c9 : w9.cell? ⟨p, 1, none⟩ = some (.int .i64 (size : Int)) := (cell_of_row _ _ _ _ _ _ h9).trans rfl; have f9 : w9.frozen? ⟨p, 1, none⟩ = false := frozen_of_row _ _ _ _ _ h9; clear h9 k9 s9))
          go_ret
          have k10 : Keep (fun x => x = p) w9 (w9.setCell ⟨p, 1, none⟩ (.int .i64 (sz : Int))) := (Keep.refl _ w9).setCell _ _ (.inl rfl)
          have hh := heap_setCell_at (i := 1) (.int .i64 (sz : Int)) H9.out
          have k11 : Keep (fun x => x = p) wr (w9.setCell ⟨p, 1, none⟩ (.int .i64 (sz : Int))) := K9.out.trans k10 (fun _ h => .inl h)
          obtain ⟨b0, D0, hs0⟩ := HI3.out.sto
          have hsz1 := KW.out.size; have hsz2 := HK.out.size
          rw [HLL.out] at HS2
          rw [← HS2.out]
          refine ⟨rfl, grow G wa wr, ⟨by simpa using hh, ⟨b0, D0, hs0.keep k11 (fun x hx e => HI3.out.pF (e ▸ hx))⟩, HI3.out.pF, hT', HFT.out⟩, ?_, fun x hx => ?_⟩
          · refine (((KW.out.mono (fun _ _ h => .inr (.inr h))).trans HK.out (fun x hx => .inl (.inl hx))).trans HK3.out (fun x hx => ?_)).trans k11 (fun x hx => .inl (.inr (.inl hx)))
            rw [HGG.out] at hx
            rcases hx with hx | hx
            · exact .inl (.inl hx)
            · exact .inr (by omega)
          · rw [HGG.out] at hx
            rcases hx with (hx | hx) | hx
            · exact .inl hx
            · exact .inr (by omega)
            · exact .inr (by omega)

end Go.Proofs.Ytejeadccpigepaa.Ino
