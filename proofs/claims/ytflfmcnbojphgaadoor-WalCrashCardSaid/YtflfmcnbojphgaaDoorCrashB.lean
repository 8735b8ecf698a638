/- WalCrash: what is known round its loop; the arguments that are out of range. -/
import Derived.Test.YtflfmcnbojphgaaDoorCrashA
import Derived.Deep.CutBlock
import Derived.Deep.CutRange
namespace Go.Proofs.YtflfmcnbojphgaaDoor
open Go.RowKit
set_option maxRecDepth 100000

/-- The disk lives. -/
def CLive (w : World) (p q r i synced : Nat) (st : Value) (wr : World) : Prop :=
  ∃ N vh vw us ks H W g D sts, CM w (fun M wr => Two M w wr p q ⟨D, g, [], []⟩ (50 + 100 * i)) r N vh vw us ks H W st sts wr ∧ CP D H W g vh sts synced ∧ W.length ≤ i

/-- The disk is dead. -/
def CDead (w : World) (p synced : Nat) (st : Value) (wr : World) : Prop :=
  ∃ N n D sts v1 v2 us1 us2 H1 H2, Dg w wr p D n ∧ n ≤ 5000 ∧ D.las.length = 128 ∧ deadB D = true ∧ Row wr 34 1 st sts.length sts ∧ sts.length = synced + 2 ∧ sts[synced]? = some v1 ∧ sts[synced + 1]? = some v2 ∧
    HomesAt N wr v1 us1 H1 ∧ HomesAt N wr v2 us2 H2 ∧ H1.length = 128 ∧ H2.length = 128 ∧ ∀ bs, Either 128 (fun i => H1.getD i default) (fun i => H2.getD i default) (rh (putAll D.las (pick D.cache bs)))

structure CRel (w : World) (p q r L : Nat) (st sy iv : Value) (wr : World) : Prop where
  ex : ∃ i synced : Nat, i ≤ L ∧ i ≤ 20 ∧ synced ≤ i ∧ iv = .int .i64 (i : Int) ∧ sy = .int .i64 (synced : Int) ∧ (CLive w p q r i synced st wr ∨ CDead w p synced st wr)

/-- What is there behind the loop. -/
structure CFin (w : World) (p : Nat) (st sy : Value) (wr : World) : Prop where
  ex : ∃ (synced : Nat) (N : Nat → Prop) (n : Nat) (D : Dk) (sts : List Value), sy = .int .i64 (synced : Int) ∧ synced ≤ 20 ∧ sts.length ≤ 30 ∧ Dg w wr p D n ∧ n ≤ 5000 ∧ D.las.length = 128 ∧ Row wr 34 1 st sts.length sts ∧
    (∀ t, synced ≤ t → t < sts.length → ∃ v us H, sts[t]? = some v ∧ HomesAt N wr v us H ∧ H.length = 128) ∧
    ∀ bs, ∃ t v us H, synced ≤ t ∧ t < sts.length ∧ sts[t]? = some v ∧ HomesAt N wr v us H ∧ H.length = 128 ∧ ∀ i, 48 ≤ i → i < 128 → rh (putAll D.las (pick D.cache bs)) i = H.getD i default

theorem CLive.fin {w : World} {p q r i synced : Nat} {st : Value} {wr : World} (h : CLive w p q r i synced st wr) (hi : i ≤ 20) (hs : synced ≤ i) : CFin w p st (.int .i64 (synced : Int)) wr := by
  obtain ⟨N, vh, vw, us, ks, H, W, g, D, sts, hm, hp, _⟩ := h
  refine ⟨synced, N, 50 + 100 * i, D, sts, rfl, by omega, by have := hp.len; omega, hm.side.lg.dg, by omega, hp.clean.len, hm.row, fun t h1 h2 => ?_, fun bs => ⟨synced, vh, us, H, Nat.le_refl _, by have := hp.len; omega, hp.last, hm.ref.homes, hp.hlen, fun j a b => ?_⟩⟩
  · obtain rfl : t = synced := by have := hp.len; omega
    exact ⟨vh, us, H, hp.last, hm.ref.homes, hp.hlen⟩
  · have e : putAll D.las (pick D.cache bs) = D.las := by rw [hp.clean.cache]; simp [pick, putAll]
    rw [e, hp.clean.rh]
    exact hp.home j a b

theorem CDead.fin {w : World} {p synced : Nat} {st : Value} {wr : World} (h : CDead w p synced st wr) (hs : synced ≤ 20) : CFin w p st (.int .i64 (synced : Int)) wr := by
  obtain ⟨N, n, D, sts, v1, v2, us1, us2, H1, H2, hd, hn, hl, _, hr, hlen, e1, e2, h1, h2, l1, l2, hv⟩ := h
  refine ⟨synced, N, n, D, sts, rfl, hs, by omega, hd, hn, hl, hr, fun t a b => ?_, fun bs => ?_⟩
  · rcases Nat.eq_or_lt_of_le a with rfl | a
    · exact ⟨v1, us1, H1, e1, h1, l1⟩
    · obtain rfl : t = synced + 1 := by omega
      exact ⟨v2, us2, H2, e2, h2, l2⟩
  · rcases hv bs with hv | hv
    · exact ⟨synced, v1, us1, H1, Nat.le_refl _, by omega, e1, h1, l1, hv⟩
    · exact ⟨synced + 1, v2, us2, H2, by omega, by omega, e2, h2, l2, hv⟩

theorem wc_out {w : World} (hT : Tab w) (n k : Int) {vo v1 v2 : Value} (h : n < 0 ∨ 300 < n ∨ k < 0 ∨ 100 < k) : Calls Tryd.prog 3 #[vo, .int .i64 n, v1, .int .i64 k, v2] w fun e w' => e = .returned (.bool true) ∧ Keep (fun _ => False) w w' := by
  have HT := Lib.hid hT
  have ho := open_fresh (zeros_ok 128 (by omega)) (by rw [List.length_replicate]; omega)
  rw [List.length_replicate] at ho
  have HO := Lib.hid ho
  have h' : n < 0 ∨ (¬ n < 0 ∧ 300 < n) ∨ (¬ n < 0 ∧ ¬ 300 < n ∧ k < 0) ∨ (¬ n < 0 ∧ ¬ 300 < n ∧ ¬ k < 0 ∧ 100 < k) := by omega
  clear hT ho h
  rcases h' with h1 | ⟨h1, h2⟩ | ⟨h1, h2, h3⟩ | ⟨h1, h2, h3, h4⟩
  all_goals
    go_enter Tryd.func3, Tryd.ntmps3
    go_wp2_with (go_at_call 4; refine (begun3_any HT.out).mono ?_; rintro e w1 ⟨rfl, k1⟩; have K1 := Lib.hid k1; clear k1)
    refine (new_g K1.out HT.out 128 (by omega) (by omega)).mono ?_
    rintro e w2 ⟨p, rfl, h2'⟩
    have H2 := Lib.hid h2'; clear h2'
    go_wp2_with fail
    refine (open_g H2.out (by omega) (by simp [Dk.fresh]) (by simp [Dk.fresh]) HO.out.2.2).mono ?_
    rintro e w3 ⟨q, rfl, h3'⟩
    have H3 := Lib.hid h3'.keep; clear h3' H2
    go_wp2
    go_ret
    exact ⟨rfl, H3.out⟩

end Go.Proofs.YtflfmcnbojphgaaDoor
