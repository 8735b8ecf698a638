/- A world in memory; the reference's teller. -/
import Derived.Test.YtheaghgockafmaaGreatWdO
namespace Go.Proofs.YtheaghgockafmaaGreat.Wd
open Go.RowKit Go.Proofs.YtheaghgockafmaaGreat Go.Proofs.YtheaghgockafmaaGreat.Lin
set_option maxRecDepth 100000

structure ChM where
  name : ByteArray
  hash : ByteArray
  on : Bool
  room : Int
  hp : Int
  xp : Int
  gold : Int
  bank : Int
  foe : Int
  done : List Int
structure ThM where
  id : Int
  proto : Int
  place : Int
  room : Int
  who : ByteArray
structure MoM where
  id : Int
  proto : Int
  room : Int
  hp : Int
structure HoM where
  room : Int
  owner : ByteArray
  guests : List ByteArray
  chest : Int
structure LoM where
  id : Int
  thing : Int
  seller : ByteArray
  min : Int
  bid : Int
  bidder : ByteArray
  ends : Int
structure TiM where
  room : Int
  gold : Int
structure WM where
  now : Int
  next : Int
  minted : Int
  chars : List ChM
  things : List ThM
  mobs : List MoM
  houses : List HoM
  lots : List LoM
  tills : List TiM
structure SayM where
  to : ByteArray
  text : ByteArray

def chC (x : ChM × Value) : List Value := [.string x.1.name, .string x.1.hash, .bool x.1.on, .int .i64 x.1.room, .int .i64 x.1.hp, .int .i64 x.1.xp, .int .i64 x.1.gold, .int .i64 x.1.bank, .int .i64 x.1.foe, x.2]
def thC (x : ThM) : List Value := [.int .i64 x.id, .int .i64 x.proto, .int .i64 x.place, .int .i64 x.room, .string x.who]
def moC (x : MoM) : List Value := [.int .i64 x.id, .int .i64 x.proto, .int .i64 x.room, .int .i64 x.hp]
def hoC (x : HoM × Value) : List Value := [.int .i64 x.1.room, .string x.1.owner, x.2, .int .i64 x.1.chest]
def loC (x : LoM) : List Value := [.int .i64 x.id, .int .i64 x.thing, .string x.seller, .int .i64 x.min, .int .i64 x.bid, .string x.bidder, .int .i64 x.ends]
def tiC (x : TiM) : List Value := [.int .i64 x.room, .int .i64 x.gold]
def sayC (x : SayM) : List Value := [.string x.to, .string x.text]
theorem chC_len (x : ChM × Value) : (chC x).length = 10 := rfl
theorem thC_len (x : ThM) : (thC x).length = 5 := rfl
theorem moC_len (x : MoM) : (moC x).length = 4 := rfl
theorem hoC_len (x : HoM × Value) : (hoC x).length = 4 := rfl
theorem loC_len (x : LoM) : (loC x).length = 7 := rfl
theorem tiC_len (x : TiM) : (tiC x).length = 2 := rfl
theorem sayC_len (x : SayM) : (sayC x).length = 2 := rfl

/-- The slice v reads as texts. -/
def Txts (w : World) (v : Value) (l : List ByteArray) : Prop := Seen w 1 v l.length (tcells l) ∧ ∀ b, v.ownBlock = some b → ∃ cs f, w.heap[b]? = some (.cells cs 9 f)
theorem Txts.keep {F : Nat → Prop} {w w' : World} {v : Value} {l : List ByteArray} (h : Txts w v l) (k : Keep F w w') (hF : ∀ b, v.ownBlock = some b → b < w.heap.size → ¬ F b) : Txts w' v l :=
  ⟨h.1.keep k hF, fun b hb => by
    obtain ⟨cs, f, hg⟩ := h.2 b hb
    exact ⟨cs, f, (k.block b (lt_of_block hg) (hF b hb (lt_of_block hg))).trans hg⟩⟩

/-- A world in memory, in blocks of N. -/
structure WP (N : Nat → Prop) (w : World) (q : Nat) (W : WM) (v1 v2 v3 v4 v5 v6 : Value) (cr : List (ChM × Value)) (hr : List (HoM × Value)) : Prop where
  blk : w.heap[q]? = some (.cells #[.int .i64 W.now, .int .i64 W.next, .int .i64 W.minted, v1, v2, v3, v4, v5, v6] 52 (0, 0))
  chars : Rec w 65 chC 10 v1 cr
  charm : cr.map Prod.fst = W.chars
  dones : ∀ x ∈ cr, Ints w x.2 x.1.done ∧ ∀ b, x.2.ownBlock = some b → N b
  things : Rec w 29 thC 5 v2 W.things
  mobs : Rec w 76 moC 4 v3 W.mobs
  houses : Rec w 68 hoC 4 v4 hr
  housem : hr.map Prod.fst = W.houses
  guests : ∀ x ∈ hr, Txts w x.2 x.1.guests ∧ ∀ b, x.2.ownBlock = some b → N b
  lots : Rec w 79 loC 7 v5 W.lots
  tills : Rec w 82 tiC 2 v6 W.tills
  nq : N q
  nv : ∀ v ∈ [v1, v2, v3, v4, v5, v6], ∀ b, v.ownBlock = some b → N b

theorem WP.keep {N F : Nat → Prop} {w w' : World} {q : Nat} {W : WM} {v1 v2 v3 v4 v5 v6 : Value} {cr : List (ChM × Value)} {hr : List (HoM × Value)} (h : WP N w q W v1 v2 v3 v4 v5 v6 cr hr) (k : Keep F w w') (hF : ∀ b, N b → ¬ F b) : WP N w' q W v1 v2 v3 v4 v5 v6 cr hr := by
  have hv : ∀ v ∈ [v1, v2, v3, v4, v5, v6], ∀ b, v.ownBlock = some b → ¬ F b := fun v hv b hb => hF b (h.nv v hv b hb)
  exact ⟨(k.block q (lt_of_block h.blk) (hF q h.nq)).trans h.blk, h.chars.keep k (hv v1 (by simp)), h.charm, fun x hx => ⟨(h.dones x hx).1.keep k (fun b hb _ => hF b ((h.dones x hx).2 b hb)), (h.dones x hx).2⟩,
    h.things.keep k (hv v2 (by simp)), h.mobs.keep k (hv v3 (by simp)), h.houses.keep k (hv v4 (by simp)), h.housem, fun x hx => ⟨(h.guests x hx).1.keep k (fun b hb _ => hF b ((h.guests x hx).2 b hb)), (h.guests x hx).2⟩,
    h.lots.keep k (hv v5 (by simp)), h.tills.keep k (hv v6 (by simp)), h.nq, h.nv⟩

/-- A world in memory, however it lies. -/
def WAt (N : Nat → Prop) (w : World) (q : Nat) (W : WM) : Prop := ∃ v1 v2 v3 v4 v5 v6 cr hr, WP N w q W v1 v2 v3 v4 v5 v6 cr hr
theorem WAt.keep {N F : Nat → Prop} {w w' : World} {q : Nat} {W : WM} (h : WAt N w q W) (k : Keep F w w') (hF : ∀ b, N b → ¬ F b) : WAt N w' q W := by
  obtain ⟨v1, v2, v3, v4, v5, v6, cr, hr, h⟩ := h
  exact ⟨v1, v2, v3, v4, v5, v6, cr, hr, h.keep k hF⟩

/-- Behind a call nothing has turned but the blocks of M; what M has now are those, and new ones. -/
structure Ext (M M' : Nat → Prop) (w w' : World) : Prop where
  keep : Keep M w w'
  new : ∀ b, M' b → M b ∨ w.heap.size ≤ b
theorem Ext.refl (M : Nat → Prop) (w : World) : Ext M M w w := ⟨Keep.refl M w, fun _ h => .inl h⟩
theorem Ext.trans {M M1 M2 : Nat → Prop} {w w1 w2 : World} (h : Ext M M1 w w1) (k : Ext M1 M2 w1 w2) : Ext M M2 w w2 :=
  ⟨h.keep.trans k.keep h.new, fun b hb => by
    rcases k.new b hb with h1 | h1
    · exact h.new b h1
    · exact .inr (Nat.le_trans h.keep.size h1)⟩
theorem Ext.out {M M' : Nat → Prop} {w w' : World} (h : Ext M M' w w') {b : Nat} (hb : b < w.heap.size) (hm : ¬ M b) : ¬ M' b := fun e => by
  rcases h.new b e with h1 | h1
  · exact hm h1
  · omega

/-- The teller: a world, its tables, what is said. -/
structure TP (M P N : Nat → Prop) (w : World) (p q d o : Nat) (D : DbM) (W : WM) (S : List SayM) (u : Int) (sv : Value) : Prop where
  blk : w.heap[p]? = some (.cells #[.pointer (some ⟨q, 0, none⟩), .pointer (some ⟨d, o, none⟩), sv, .int .i64 u] 58 (0, 0))
  says : Rec w 202 sayC 2 sv S
  wld : WAt N w q W
  db : DbAt P w d o D
  mn : ∀ b, N b → M b
  mp : M p
  ms : ∀ b, sv.ownBlock = some b → M b
  np : ¬ N p
  ns : ∀ b, sv.ownBlock = some b → ¬ N b
  lt : ∀ b, M b → b < w.heap.size
  dis : ∀ b, P b → ¬ M b
  plt : ∀ b, P b → b < w.heap.size

def TAt (M P : Nat → Prop) (w : World) (p q d o : Nat) (D : DbM) (W : WM) (S : List SayM) (u : Int) : Prop := ∃ N sv, TP M P N w p q d o D W S u sv

/-- Behind a call that turns nothing of the teller. -/
theorem TP.keep {M P N F : Nat → Prop} {w w' : World} {p q d o : Nat} {D : DbM} {W : WM} {S : List SayM} {u : Int} {sv : Value} (h : TP M P N w p q d o D W S u sv) (k : Keep F w w') (hF : ∀ b, M b → ¬ F b) (hP : ∀ b, P b → ¬ F b) : TP M P N w' p q d o D W S u sv :=
  ⟨(k.block p (lt_of_block h.blk) (hF p h.mp)).trans h.blk, h.says.keep k (fun b hb => hF b (h.ms b hb)), h.wld.keep k (fun b hb => hF b (h.mn b hb)), h.db.keep k hP, h.mn, h.mp, h.ms, h.np, h.ns, fun b hb => Nat.lt_of_lt_of_le (h.lt b hb) k.size, h.dis, fun b hb => Nat.lt_of_lt_of_le (h.plt b hb) k.size⟩
theorem TAt.keep {M P F : Nat → Prop} {w w' : World} {p q d o : Nat} {D : DbM} {W : WM} {S : List SayM} {u : Int} (h : TAt M P w p q d o D W S u) (k : Keep F w w') (hF : ∀ b, M b → ¬ F b) (hP : ∀ b, P b → ¬ F b) : TAt M P w' p q d o D W S u := by
  obtain ⟨N, sv, h⟩ := h
  exact ⟨N, sv, h.keep k hF hP⟩

/-- What a call of the teller leaves. -/
structure TE (M P : Nat → Prop) (w w' : World) (p q d o : Nat) (D : DbM) (W : WM) (S : List SayM) (u : Int) : Prop where
  ex : ∃ M', TAt M' P w' p q d o D W S u ∧ Ext M M' w w'

end Go.Proofs.YtheaghgockafmaaGreat.Wd
