/- A log beside other things in memory: what its calls leave alone. -/
import Derived.Test.YtibmillfankjfaaGreatDoorWhole
import Derived.Test.YtibmillfankjfaaGreatDoorRefD
namespace Go.Proofs.YtibmillfankjfaaGreatDoor
open Go.RowKit
set_option maxRecDepth 100000

/-- A log made since w0, of which no block is one of N. -/
structure Two (N : Nat → Prop) (w0 wr : World) (p q : Nat) (S : LogS) (n : Nat) : Prop where
  ex : ∃ F a b c, IsLog wr F p q a b c S n ∧ (∀ x, logOf F q a b c x → w0.heap.size ≤ x ∧ ¬ N x)
  keep : Keep (fun _ => False) w0 wr
  tab : Tab w0

theorem Two.lg {N : Nat → Prop} {w0 wr : World} {p q : Nat} {S : LogS} {n : Nat} (h : Two N w0 wr p q S n) : Lg w0 wr p q S n := by
  obtain ⟨F, a, b, c, h1, h2⟩ := h.ex
  exact ⟨F, a, b, c, h1, fun x hx => (h2 x hx).1, h.keep, h.tab⟩

theorem Two.start {N : Nat → Prop} {w0 wr w' : World} {p q : Nat} {S : LogS} {n : Nat} (h : Lg w0 wr p q S n) (k : Keep (fun _ => False) wr w') (hN : ∀ x, N x → wr.heap.size ≤ x) : Two N w0 w' p q S n := by
  obtain ⟨F, a, b, c, h1, h2, h3, h4⟩ := h
  exact ⟨⟨F, a, b, c, h1.keep0 k, fun x hx => ⟨h2 x hx, fun hn => by have := h1.lt x hx; have := hN x hn; omega⟩⟩, h3.trans k (fun _ h => h.elim), h4⟩

/-- The others have turned, or made something. -/
theorem Two.other {N G : Nat → Prop} {w0 wr w' : World} {p q : Nat} {S : LogS} {n : Nat} (h : Two N w0 wr p q S n) (k : Keep G wr w') (hG : ∀ x, G x → N x) (hG0 : ∀ x, G x → w0.heap.size ≤ x) : Two (more N wr w') w0 w' p q S n := by
  obtain ⟨F, a, b, c, h1, h2⟩ := h.ex
  refine ⟨⟨F, a, b, c, h1.keep k (fun x hx hg => (h2 x hx).2 (hG x hg)), fun x hx => ⟨(h2 x hx).1, fun hn => ?_⟩⟩, h.keep.trans k (fun x hx => .inr (hG0 x hx)), h.tab⟩
  rcases hn with hn | hn
  · exact (h2 x hx).2 hn
  · have := h1.lt x hx; omega

theorem Two.sub {N M : Nat → Prop} {w0 wr : World} {p q : Nat} {S : LogS} {n : Nat} (h : Two N w0 wr p q S n) (hM : ∀ x, M x → N x) : Two M w0 wr p q S n := by
  obtain ⟨F, a, b, c, h1, h2⟩ := h.ex
  exact ⟨⟨F, a, b, c, h1, fun x hx => ⟨(h2 x hx).1, fun hm => (h2 x hx).2 (hM x hm)⟩⟩, h.keep, h.tab⟩

theorem put_t {N : Nat → Prop} {w0 wr : World} {p q : Nat} {S : LogS} {n : Nat} (h : Two N w0 wr p q S n) (i : Nat) (z : Int) (hz : z = (i : Int)) (hi : homeB S.D.las.length (i : Int) = true) (g off cap : Nat) (s : ByteArray) (hs : s.size = 512) (hb : BytesAt wr g off s.data.toList) (hfit : (glook S.wait i).isSome = true ∨ S.wait.length < 40) :
    Calls Tryz.prog 10 #[.pointer (some ⟨q, 0, none⟩), .int .i64 z, .slice (some ⟨g, off, none⟩) 512 cap] wr fun e w' => e = .returned .nilIface ∧ Two N w0 w' p q { S with wait := gput S.wait i s } n ∧ Keep (fun x => ¬ N x) wr w' := by
  subst hz
  obtain ⟨F, a, b, c, h1, h2⟩ := h.ex
  refine (lput_any h1 i hi g off cap s hs hb hfit).mono ?_
  rintro e w' ⟨rfl, hl, hk⟩
  have ha := h2 a (.inr (.inr (.inl rfl)))
  exact ⟨rfl, ⟨⟨F, a, b, c, hl, h2⟩, h.keep.behind hk ha.1, h.tab⟩, hk.mono (fun x _ e => by rw [e]; exact ha.2)⟩

theorem sync_t {N : Nat → Prop} {w0 wr : World} {p q : Nat} {S : LogS} {n : Nat} (h : Two N w0 wr p q S n) (hN : ∀ x, N x → x < wr.heap.size) (hn : n < 400000000000) (hdead : deadB (syncD S.D S.wait) = false) :
    Calls Tryz.prog 12 #[.pointer (some ⟨q, 0, none⟩)] wr fun e w' => e = .returned .nilIface ∧ Two N w0 w' p q ⟨syncD S.D S.wait, [], [], S.lost⟩ (n + 100) ∧ Keep (fun x => ¬ N x) wr w' := by
  obtain ⟨F, a, b, c, h1, h2⟩ := h.ex
  have hlt := h.tab.lt
  have hs := h.keep.size
  refine (lsync_any (tab_at h.keep h.tab) ⟨fun hf => by have := (h2 _ (.inl hf)).1; omega, fun e => by have := (h2 q (.inr (.inl rfl))).1; omega⟩ h1 hn hdead).mono ?_
  rintro e w' ⟨rfl, G, a', b', hl, hk, ho⟩
  refine ⟨rfl, ⟨⟨G, a', b', c, hl, fun x hx => ?_⟩, h.keep.trans hk (fun x hx => .inr ?_), h.tab⟩, hk.mono (fun x _ hx => ?_)⟩
  · rcases ho x hx with h' | h'
    · exact h2 x h'
    · exact ⟨by omega, fun hn => by have := hN x hn; omega⟩
  · rcases hx with hx | rfl
    · exact (h2 x (.inl hx)).1
    · exact (h2 x (.inr (.inl rfl))).1
  · rcases hx with hx | rfl
    · exact (h2 x (.inl hx)).2
    · exact (h2 x (.inr (.inl rfl))).2

/-- A disk alone, made since w0, of which no block is one of N. -/
structure TwoD (N : Nat → Prop) (w0 wr : World) (p : Nat) (D : Dk) (n : Nat) : Prop where
  ex : ∃ F, DiskAt wr F p D n ∧ (∀ x, F x → w0.heap.size ≤ x ∧ ¬ N x)
  keep : Keep (fun _ => False) w0 wr
  tab : Tab w0

theorem TwoD.dg {N : Nat → Prop} {w0 wr : World} {p : Nat} {D : Dk} {n : Nat} (h : TwoD N w0 wr p D n) : Dg w0 wr p D n := by
  obtain ⟨F, h1, h2⟩ := h.ex
  exact ⟨F, h1, fun x hx => (h2 x hx).1, h.keep, h.tab⟩

theorem syncdead_t {N : Nat → Prop} {w0 wr : World} {p q : Nat} {S : LogS} {n : Nat} (h : Two N w0 wr p q S n) (hN : ∀ x, N x → x < wr.heap.size) (hn : n < 400000000000) (hz : S.wait.length ≠ 0) (hd : deadB (syncD S.D S.wait) = true) :
    Calls Tryz.prog 12 #[.pointer (some ⟨q, 0, none⟩)] wr fun e w' => e = .returned (apiErr 4) ∧ TwoD N w0 w' p (syncD S.D S.wait) (n + 100) ∧ Keep (fun x => ¬ N x) wr w' := by
  obtain ⟨F, a, b, c, h1, h2⟩ := h.ex
  have hlt := h.tab.lt
  have hs := h.keep.size
  refine (lsync_dead (tab_at h.keep h.tab) ⟨fun hf => by have := (h2 _ (.inl hf)).1; omega, fun e => by have := (h2 q (.inr (.inl rfl))).1; omega⟩ h1 hn hz hd).mono ?_
  rintro e w' ⟨rfl, G, hdk, hk, hG⟩
  refine ⟨rfl, ⟨⟨G, hdk, fun x hx => ?_⟩, h.keep.trans hk (fun x hx => .inr ?_), h.tab⟩, hk.mono (fun x _ hx => ?_)⟩
  · rcases hG x hx with h' | h'
    · exact h2 x (.inl h')
    · exact ⟨by omega, fun hn => by have := hN x hn; omega⟩
  · rcases hx with hx | rfl | rfl
    · exact (h2 x (.inl hx)).1
    · exact (h2 _ (.inr (.inl rfl))).1
    · exact (h2 _ (.inr (.inr (.inr (.inr rfl))))).1
  · rcases hx with hx | rfl | rfl
    · exact (h2 x (.inl hx)).2
    · exact (h2 _ (.inr (.inl rfl))).2
    · exact (h2 _ (.inr (.inr (.inr (.inr rfl))))).2

/-- What the log's side is, whatever it is: it stands beside others that turn. -/
structure Side (w : World) (T : (Nat → Prop) → World → Prop) : Prop where
  other : ∀ {M G : Nat → Prop} {wr w' : World}, T M wr → Keep G wr w' → (∀ x, G x → M x) → (∀ x, G x → w.heap.size ≤ x) → T (more M wr w') w'
  sub : ∀ {M M' : Nat → Prop} {wr : World}, T M wr → (∀ x, M' x → M x) → T M' wr
  keep : ∀ {M : Nat → Prop} {wr : World}, T M wr → Keep (fun _ => False) w wr

theorem side_two (w : World) (p q : Nat) (S : LogS) (n : Nat) : Side w (fun M wr => Two M w wr p q S n) := ⟨fun h k a b => h.other k a b, fun h a => h.sub a, fun h => h.keep⟩

theorem side_twoD (w : World) (p : Nat) (D : Dk) (n : Nat) : Side w (fun M wr => TwoD M w wr p D n) := by
  refine ⟨fun {M G wr w'} h k a b => ?_, fun {M M' wr} h a => ?_, fun h => h.keep⟩
  · obtain ⟨F, h1, h2⟩ := h.ex
    have hl := h1.lt
    refine ⟨⟨F, h1.keep k (fun x hx hg => (h2 x hx).2 (a x hg)), fun x hx => ⟨(h2 x hx).1, fun hn => ?_⟩⟩, h.keep.trans k (fun x hx => .inr (b x hx)), h.tab⟩
    rcases hn with hn | hn
    · exact (h2 x hx).2 hn
    · have := hl x hx; omega
  · obtain ⟨F, h1, h2⟩ := h.ex
    exact ⟨⟨F, h1, fun x hx => ⟨(h2 x hx).1, fun hm => (h2 x hx).2 (a x hm)⟩⟩, h.keep, h.tab⟩

/-- A crash, told of the world in which it comes. -/
theorem dcrash_new {w0 wr : World} {p : Nat} {D : Dk} {n : Nat} (h : Dg w0 wr p D n) (hlen : D.las.length ≤ 4096) {vp : Value} {bs : List Bool} (hp : Seen wr 1 vp bs.length (bools bs)) (hpn : ∀ b, vp.ownBlock = some b → 0 < bs.length → b < wr.heap.size) :
    Calls Tryz.prog 13 #[.pointer (some ⟨p, 0, none⟩), vp] wr fun e w' => ∃ p2, e = .returned (.pointer (some ⟨p2, 0, none⟩)) ∧ Dg wr w' p2 (D.crash bs) 0 := by
  obtain ⟨F, h1, h2, h3, h4⟩ := h
  obtain ⟨⟨vl, vn, vc, hd, _⟩, _, _⟩ := h1
  refine (crash_any hd (by omega) hp hpn).mono ?_
  rintro e w' ⟨p2, ul, un, rfl, hd2, hk, ho⟩
  exact ⟨p2, rfl, diskOf p2 ul un (.slice none 0 0), ⟨⟨ul, un, _, hd2, fun _ h => h⟩, fun b hb => (ho b hb).2, Dk.Mild.fresh _⟩, fun b hb => (ho b hb).1, hk, tab_at h3 h4⟩

/-- Opening, whether it lives or dies. -/
theorem open_d {w0 wr : World} {p : Nat} {D : Dk} {n : Nat} (h : Dg w0 wr p D n) (hn : n < 400000000000) (hlen : 128 ≤ D.las.length) (hlen2 : D.las.length ≤ 4096) :
    Calls Tryz.prog 6 #[.pointer (some ⟨p, 0, none⟩)] wr fun e w' => ∃ rv, e = .returned rv ∧ Dg w0 w' p (openD D) (n + 50) := by
  cases hd : deadB (openD D)
  · refine (open_g h hn hlen hlen2 hd).mono ?_
    rintro e w' ⟨q, rfl, h'⟩
    exact ⟨_, rfl, h'.dg⟩
  · refine (open_dead_g h hn hlen hlen2 hd).mono ?_
    rintro e w' ⟨rfl, h'⟩
    exact ⟨_, rfl, h'⟩

/-! ### what is read behind two crashes -/
theorem reopen_val {L : List ByteArray} (hok : (Dk.fresh L).Ok) (hl : L.length = 128) (k : Int) (bs : List Bool) (hok2 : (Dk.fresh (putAll (openD ((Dk.fresh L).limit k)).las (pick (openD ((Dk.fresh L).limit k)).cache bs))).Ok) :
    (openD ((Dk.fresh L).limit k)).las.length = 128 ∧
    deadB (openD ((openD ((Dk.fresh L).limit k)).crash bs)) = false ∧ ((openD ((Dk.fresh L).limit k)).crash bs).las.length = 128 ∧
    ∀ i, 48 ≤ i → i < 128 → LogS.read ⟨openD ((openD ((Dk.fresh L).limit k)).crash bs), [], [], []⟩ i = rh L i := by
  have hokl : ((Dk.fresh L).limit k).Ok := ⟨hok.same, hok.pos, hok.inr, hok.slas, hok.snew⟩
  have h1 := open_leaves hokl ((Dk.Coh.fresh L).limit k) rfl (by show 128 ≤ L.length; omega)
  have e1 : ((Dk.fresh L).limit k).las = L := rfl
  rw [e1] at h1
  have hl1 : (openD ((Dk.fresh L).limit k)).las.length = 128 := by rw [openD_len]; exact hl
  have h2 := h1.crash bs
  rw [crash_fresh]
  have hL : (putAll (openD ((Dk.fresh L).limit k)).las (pick (openD ((Dk.fresh L).limit k)).cache bs)).length = 128 := by rw [putAll_length]; exact hl1
  generalize putAll (openD ((Dk.fresh L).limit k)).las (pick (openD ((Dk.fresh L).limit k)).cache bs) = L2 at *
  obtain ⟨c5, v5, d5⟩ := open_fresh hok2 (by omega)
  refine ⟨hl1, d5, hL, fun i a b => ?_⟩
  rw [c5.read rfl rfl, v5 i a (by omega)]
  exact h2 i a (by omega)

/-- The homes of a clean disk. -/
def HomeIs (D : Dk) (H : List ByteArray) : Prop := ∀ i, 48 ≤ i → i < 128 → D.las.getD i default = H.getD i default

theorem sync_homes {D : Dk} {H : List ByteArray} {W g : Grp} (h : HomeIs D H) (hr : RefIs W g) (hl : H.length = 128) (i : Nat) (h1 : 48 ≤ i) (h2 : i < 128) : over g D.las i = (rsync H W).getD i default := by
  rw [rsync_at W H i hr.keys (by omega), over, hr.look, h i h1 h2]

end Go.Proofs.YtibmillfankjfaaGreatDoor
