/-
  WHAT IS PROVED: nothing yet: one node as plain data, and what its calls do, in the program's own order. No condition.
-/
import Derived.Test.YteoodompphhkbaaGreatDoorZRos
import Derived.Test.YteoodompphhkbaaGreatDoorZWat
import Derived.Test.YteoodompphhkbaaGreatDoorZBok
import Derived.Test.YteoodompphhkbaaGreatDoorZBal
import Derived.Test.YteoodompphhkbaaGreatDoorZRnkP
import Derived.Test.YteoodompphhkbaaGreatDoorZEpo
import Derived.Test.YteoodompphhkbaaGreatDoorZWir
import Derived.Test.YteoodompphhkbaaGreatDoorZKB1
import Derived.Test.YteoodompphhkbaaGreatDoorZKC1
namespace Go.Proofs.YteoodompphhkbaaGreatDoor.Nod
open Go.RowKit

/-- a node: its id, timeout, whether it is stopped, its time, master, epochs, offset, table, roster, peers, reports, ballot, plan -/
structure Nd where
  id : Int
  T : Int
  stop : Bool
  time : Int
  ma : Int
  ep : Epo.Ep
  off : Int
  tab : K.C.Tab
  R : Ros.Ro
  P : List Wat.Pr
  B : List Bok.Rp
  Z : Bal.Bst
  plan : Int
/-- an event -/
structure Ev where
  k : Int
  b : Int
  a : Int
  e : Int
  who : List Int
/-- a node amid a call: what it sends and tells -/
structure Tn where
  n : Nd
  out : List (Int × Wir.Pk)
  ev : List Ev

def claimT (t : K.C.Tab) (id ep : Int) (s : Nat) : K.C.Tab := if K.C.goodB t id ep = true then K.C.claimP t id ep s.testBit else K.C.Tab.zero
def dropT (t : K.C.Tab) (id : Int) (s : Nat) : K.C.Tab := if (K.C.okB t && K.C.idB id) = true then K.C.dropP t (K.C.goneN t id s).testBit else K.C.Tab.zero

section
variable (n : Nd)
def Nd.of (x : Int) : Nat := K.C.ofN n.tab x
def Nd.isSrv (x : Int) : Bool := decide (n.of x ≠ 0)
def Nd.serves : Bool := decide (n.ma = 0) && n.isSrv n.id
def Nd.mem (x : Int) : Ros.Mb := Ros.getL n.R.L x
def Nd.is (x : Int) : Bool := Ros.hasL n.R.L x
def Nd.failed (x : Int) : Bool := n.is x && decide ((n.mem x).fa ≠ -1)
def Nd.lateL : List Int := Wat.whoL n.P (Wat.lateB n.T n.time)
def Nd.late (x : Int) : Bool := decide (x ∈ n.lateL)
def Nd.rep (x : Int) : List Int := Bok.byL n.B x n.time (2 * n.T)
def Nd.claim (id ep : Int) (s : Nat) : Nd := { n with tab := claimT n.tab id ep s }
def Nd.drop (id : Int) (s : Nat) : Nd := { n with tab := dropT n.tab id s }
def Nd.bumpE : Int := Epo.bumpF n.ep
def Nd.bump : Nd := if Epo.bumpF n.ep = 0 then { n with ep := Epo.bumpE n.ep } else n
def Nd.anew : Nd := if n.bumpE = 0 then n.bump.claim n.id n.bump.ep.conf (n.bump.of n.id) else n
def Nd.set (m : Ros.Mb) : Nd := { n with R := Ros.setR n.R m }
def Nd.admitE (x : Int) : Int := Ros.addE n.R x n.time
def Nd.admit (x : Int) : Nd := if n.admitE x = 0 then { n with R := Ros.addR n.R x n.time, P := Wat.addL n.P x n.time } else n
def Nd.clear : Nd := { n with R := ⟨n.id, [], [], 0⟩, P := [], B := [], Z := Bal.Bst.zero, tab := K.C.Tab.zero, ma := 0, plan := -1 }
def Nd.known : List K.Kn := n.R.L.map fun m => ⟨m.id, m.ma, m.co⟩
def Nd.dt : K.Dt := ⟨n.id, n.ma, n.ep.cur, n.ep.vote, n.ep.conf, n.known, n.tab⟩
def Nd.takeOver (id ep : Int) (s : Nat) : Nd :=
  if n.isSrv n.id = true ∧ (n.claim id ep s).isSrv n.id = false then { n.claim id ep s with ma := id, plan := -1 } else n.claim id ep s
/-- the header of a packet of a kind -/
def Nd.header (k : Int) : Wir.Pk := ⟨k, n.id, n.ep.cur, n.ep.conf, n.ma, (if n.ma = 0 then (n.of n.id : Int) else 0), n.off, 0, 0, 0, []⟩
def hasSec (k : Int) : Bool := decide (k = 1 ∨ k = 2 ∨ k = 3)
def Nd.stateOf (x : Int) : Int := if n.failed x = true then 2 else if n.late x = true then 1 else 0
def Nd.secIds (y : Int) : List Int := Ros.nextL n.R 3 y
def Nd.secN (y : Int) : Nd := { n with R := Ros.nextR n.R 3 y }
def Nd.sec (y : Int) : List Wir.En := (n.secIds y).map fun x => ⟨x, n.stateOf x⟩
end

section
variable (t : Tn)
def Tn.send (y : Int) (p : Wir.Pk) : Tn :=
  if hasSec p.kind = true then ⟨t.n.secN y, t.out ++ [(y, { p with sec := t.n.sec y })], t.ev⟩ else ⟨t.n, t.out ++ [(y, p)], t.ev⟩
def Tn.sends (l : List Int) (p : Wir.Pk) : Tn := l.foldl (fun u x => u.send x p) t
def Tn.ids : List Int := t.n.R.L.map Ros.Mb.id
def Tn.sendAll (p : Wir.Pk) : Tn := t.sends t.ids p
def maxEp (t : K.C.Tab) (x : Int) : Int := (K.C.slotsTo (K.C.ofN t x) 64).foldl (fun a i => max a (t.e i)) 0
def Tn.sendUpdate (y about : Int) : Tn := t.send y { t.n.header 5 with ab := about, as_ := (t.n.of about : Int), ac := maxEp t.n.tab about }
def Tn.sendFail (about : Int) : Tn := t.sendAll { t.n.header 4 with ab := about }
def Tn.tell (e : Ev) : Tn := ⟨t.n, t.out, t.ev ++ [{ e with b := t.n.id }]⟩
def Tn.on (f : Nd → Nd) : Tn := ⟨f t.n, t.out, t.ev⟩

/-! ### packets -/
def Tn.knowE (p : Wir.Pk) : Int := if p.frm = t.n.id then 33 else if t.n.is p.frm = true then 0 else if p.kind ≠ 3 then 30 else t.n.admitE p.frm
def Tn.know (p : Wir.Pk) : Tn := if p.frm = t.n.id then t else if t.n.is p.frm = true then t else if p.kind ≠ 3 then t else t.on fun n => n.admit p.frm
def Nd.learn (n : Nd) (p : Wir.Pk) : Nd :=
  ({ n with ep := Epo.seeE n.ep p.ep }).set { n.mem p.frm with ma := p.ma, co := max (n.mem p.frm).co p.cf, of_ := p.off }
def Tn.hearMaster1 (p : Wir.Pk) : Tn := t.on fun n => (n.drop p.frm p.sl.toNat).takeOver p.frm p.cf p.sl.toNat
def Tn.newer (p : Wir.Pk) : Int := K.C.newerZ t.n.tab p.frm p.cf p.sl.toNat
def Tn.hearMaster2 (p : Wir.Pk) : Tn := if t.newer p ≠ 0 then t.sendUpdate p.frm (t.newer p) else t
def Tn.hearMaster3 (p : Wir.Pk) : Tn := if (t.n.serves && decide (p.sl ≠ 0) && Epo.yieldB t.n.id p.frm t.n.ep.conf p.cf) = true then t.on Nd.anew else t
def Tn.hearMaster (p : Wir.Pk) : Tn := ((t.hearMaster1 p).hearMaster2 p).hearMaster3 p
def Nd.hearReplica (n : Nd) (p : Wir.Pk) : Nd :=
  if p.frm ≠ n.ma then n.drop p.frm 0 else { n.drop p.frm 0 with ma := if p.ma = n.id then 0 else p.ma }
def Nd.missing (n : Nd) (x : Int) : List Int := if n.serves = true then n.rep x ++ [n.id] else n.rep x
def Tn.look (x : Int) : Tn :=
  if (t.n.mem x).fa ≠ -1 ∨ t.n.late x = false then t
  else if Bal.majB (K.C.ownersL t.n.tab) (t.n.missing x) = false then t
  else ((t.on fun n => n.set { n.mem x with fa := n.time }).sendFail x).tell ⟨2, 0, x, t.n.ep.cur, Bal.yesIn (K.C.ownersL t.n.tab) (t.n.missing x)⟩
def Nd.clearR (n : Nd) (about by_ : Int) : Nd := { n with B := Bok.dropL n.B about by_ }
def Nd.noteR (n : Nd) (about by_ : Int) : Nd := { n with B := Bok.noteL n.B about by_ n.time }
def Tn.hearReport (by_ : Int) (e : Wir.En) : Tn := if e.st = 0 then t.on fun n => n.clearR e.id by_ else (t.on fun n => n.noteR e.id by_).look e.id
def Tn.hearEntry (frm : Int) (counts : Bool) (e : Wir.En) : Tn :=
  if e.id = t.n.id then t
  else if (t.n.is e.id && counts) = true then t.hearReport frm e
  else if (!t.n.is e.id && decide (e.st = 0)) = true then t.on fun n => n.admit e.id
  else t
def Tn.counts (p : Wir.Pk) : Bool := decide (p.ma = 0) && t.n.isSrv p.frm
def Tn.hearEntries (frm : Int) (counts : Bool) (l : List Wir.En) : Tn := l.foldl (fun u e => u.hearEntry frm counts e) t
def Tn.hearSection (p : Wir.Pk) : Tn := t.hearEntries p.frm (t.counts p) p.sec
def Nd.hearPong (n : Nd) (x : Int) : Nd :=
  let n1 := { n with P := Wat.pongL n.P x n.time }
  if (n1.mem x).fa ≠ -1 ∧ (n1.isSrv x = false ∨ 2 * n1.T < n1.time - (n1.mem x).fa) then n1.set { n1.mem x with fa := -1 } else n1
def Nd.hearFail (n : Nd) (x : Int) : Nd := if n.is x = true ∧ (n.mem x).fa = -1 then n.set { n.mem x with fa := n.time } else n
def Nd.hearUpdate (n : Nd) (p : Wir.Pk) : Nd :=
  if n.is p.ab = true then (n.set { n.mem p.ab with co := max (n.mem p.ab).co p.ac }).takeOver p.ab p.ac p.as_.toNat else n
def Nd.grants (n : Nd) (p : Wir.Pk) : Bool := n.serves && n.failed p.ma && Bal.mayB n.T n.Z p.ma n.time && decide (Epo.grantF n.ep p.ep = 0)
def Nd.give (n : Nd) (p : Wir.Pk) : Nd := { n with ep := Epo.grantE n.ep p.ep, Z := Bal.gaveS n.Z p.ma n.time }
def Tn.hearAsk (p : Wir.Pk) : Tn :=
  if t.n.grants p = true then ((t.on fun n => n.give p).send p.frm (t.n.give p |>.header 7)).tell ⟨1, 0, p.frm, p.ep, []⟩ else t
def Nd.rise (n : Nd) : Nd := ({ n with ma := 0, plan := -1 } : Nd).claim n.id n.ep.conf (n.of n.ma)
def Tn.promote : Tn := (t.on Nd.rise).sendAll (t.n.rise.header 2)
def Tn.win (e : Int) (vs : List Int) : Tn :=
  if Epo.winF t.n.ep e = 0 then ((t.on fun n => { n with ep := Epo.winE n.ep e }).tell ⟨3, 0, t.n.ma, e, vs⟩).promote else t
def Nd.voters (n : Nd) : List Int := if n.Z.on = true then Bal.sorted n.Z.vs else []
def Nd.acked (n : Nd) (p : Wir.Pk) : Nd := { n with Z := Bal.ackS n.T n.Z p.frm p.ep n.time }
def Tn.hearAck (p : Wir.Pk) : Tn :=
  if Bal.ackB t.n.T t.n.Z p.frm p.ep t.n.time = true then (t.on fun n => n.acked p).win p.ep t.n.voters else t.on fun n => n.acked p
def Tn.hearKind (p : Wir.Pk) : Tn :=
  if p.kind = 1 ∨ p.kind = 3 then t.send p.frm (t.n.header 2)
  else if p.kind = 2 then t.on fun n => n.hearPong p.frm
  else if p.kind = 4 then t.on fun n => n.hearFail p.ab
  else if p.kind = 5 then t.on fun n => n.hearUpdate p
  else if p.kind = 6 then t.hearAsk p
  else if p.kind = 7 then t.hearAck p
  else t
def Tn.learn (p : Wir.Pk) : Tn := t.on fun n => n.learn p
def Tn.hearHead (p : Wir.Pk) : Tn := if p.ma = 0 then t.hearMaster p else t.on fun n => n.hearReplica p
def Tn.packet (p : Wir.Pk) : Tn := ((((t.know p).learn p).hearHead p).hearSection p).hearKind p
def Tn.take (l : List UInt8) : Tn := if (Wir.dec l).2 ≠ 0 then t else if t.knowE (Wir.dec l).1 ≠ 0 then t.know (Wir.dec l).1 else t.packet (Wir.dec l).1

/-! ### time -/
def fresh (a t : Int) : Bool := decide (1 ≤ t ∧ t ≤ 1073741824 ∧ 0 ≤ a ∧ a ≤ 10 * t)
def Nd.wanted (n : Nd) : Bool := n.failed n.ma && (n.isSrv n.ma && fresh (n.time - (n.mem n.ma).fa) n.T)
/-! ### commands -/
def Tn.meet (x : Int) : Tn := if t.n.admitE x = 0 then (t.on fun n => n.admit x).send x ((t.n.admit x).header 3) else t
def Nd.forgetE (n : Nd) (x : Int) : Int := if x ≠ 0 ∧ x = n.ma then 21 else Ros.forE n.R x n.time
def Nd.forget (n : Nd) (x : Int) : Nd :=
  if n.forgetE x = 0 then ({ n with R := Ros.forR n.R x n.time, P := Wat.delL n.P x, B := n.B.filter fun r => !Bok.ofB x r } : Nd).drop x 0 else n
def Nd.addE (n : Nd) (s : Nat) : Int := if n.ma ≠ 0 then 35 else if K.C.less s (n.of 0) ≠ 0 then 21 else 0
def Nd.add (n : Nd) (s : Nat) : Nd := if n.addE s = 0 then n.claim n.id n.ep.conf s else n
def Nd.delE (n : Nd) (s : Nat) : Int := if K.C.less s (n.of n.id) ≠ 0 then 20 else 0
def Nd.del (n : Nd) (s : Nat) : Nd := if n.delE s = 0 then n.drop n.id (K.C.less (n.of n.id) s) else n
def Nd.repE (n : Nd) (x : Int) : Int := if n.is x = false then 30 else if (n.mem x).ma ≠ 0 then 35 else if n.isSrv n.id = true then 21 else 0
def Nd.repl (n : Nd) (x : Int) : Nd := if n.repE x = 0 then { n with ma := x, plan := -1 } else n
def Nd.tkE (n : Nd) : Int := if n.ma = 0 then 35 else n.bumpE
def Tn.takeover : Tn := if t.n.tkE = 0 then (t.on fun n => { n.bump with Z := Bal.stopS n.Z }).promote else t
def Nd.bsE (n : Nd) : Int := if n.serves = false then 35 else n.bumpE
def Nd.bs (n : Nd) : Nd := if n.bsE = 0 then n.anew else n
def offE (x : Int) : Int := if x < 0 ∨ 281474976710656 < x then 10 else 0
def Nd.setOff (n : Nd) (x : Int) : Nd := if offE x = 0 then { n with off := x } else n
structure Cmd where
  k : Int
  x : Int
  s : Nat
def Tn.obeyE (c : Cmd) : Int :=
  if c.k = 1 then t.n.admitE c.x else if c.k = 2 then t.n.forgetE c.x else if c.k = 3 then t.n.addE c.s else if c.k = 4 then t.n.delE c.s
  else if c.k = 5 then t.n.repE c.x else if c.k = 6 then t.n.tkE else if c.k = 7 then t.n.bsE else if c.k = 8 then offE c.x else if c.k = 9 then 0 else 13
def Tn.obey (c : Cmd) : Tn :=
  if c.k = 1 then t.meet c.x else if c.k = 2 then t.on fun n => n.forget c.x else if c.k = 3 then t.on fun n => n.add c.s else if c.k = 4 then t.on fun n => n.del c.s
  else if c.k = 5 then t.on fun n => n.repl c.x else if c.k = 6 then t.takeover else if c.k = 7 then t.on Nd.bs else if c.k = 8 then t.on fun n => n.setOff c.x else if c.k = 9 then t.on Nd.clear else t
end

/-! ### calls -/
/-- what a call comes to -/
structure An where
  e : Int
  out : List (Int × Wir.Pk)
  ev : List Ev
def An.err (e : Int) : An := ⟨e, [], []⟩
def isNow (t : Int) : Bool := decide (0 ≤ t ∧ t ≤ 274877906944)
def sameD (a b : K.Dt) : Bool :=
  decide (a.m = b.m ∧ a.c = b.c ∧ a.v = b.v ∧ a.f = b.f) && ((List.range 64).all fun i => decide (a.t.o i = b.t.o i ∧ a.t.e i = b.t.e i)) && decide ((a.l.map fun k => (k.i, k.m, k.c)) = b.l.map fun k => (k.i, k.m, k.c))
def Nd.saveE (n : Nd) (was : K.Dt) (D : K.Dsk.Ds) : Int × K.Dsk.Ds := if sameD was n.dt = true then (0, D) else K.Dsk.saveD D n.dt
def Nd.saved (n : Nd) (was : K.Dt) (D : K.Dsk.Ds) : Nd := if sameD was n.dt = true then n else { n with stop := decide ((K.Dsk.saveD D n.dt).1 ≠ 0) }
def Nd.at_ (n : Nd) (now : Int) : Nd := { n with time := max n.time now }
def callW (n : Nd) (D : K.Dsk.Ds) (now : Int) (fe : Tn → Int) (f : Tn → Tn) : An × Nd × K.Dsk.Ds :=
  if n.stop = true then (.err 50, n, D)
  else if isNow now = false then (.err 10, n, D)
  else
    let t0 : Tn := ⟨n.at_ now, [], []⟩
    if fe t0 ≠ 0 then (.err (fe t0), (f t0).n, D)
    else
      let r := (f t0).n.saveE n.dt D
      if r.1 ≠ 0 then (.err r.1, (f t0).n.saved n.dt D, r.2) else (⟨0, (f t0).out, (f t0).ev⟩, (f t0).n.saved n.dt D, r.2)
def doW (n : Nd) (D : K.Dsk.Ds) (c : Cmd) (now : Int) := callW n D now (fun t => t.obeyE c) (fun t => t.obey c)
/-- the node that begins with a state -/
def Nd.zero (id T time : Int) : Nd := ⟨id, T, false, time, 0, Epo.Ep.zero, 0, K.C.Tab.zero, ⟨id, [], [], 0⟩, [], [], Bal.Bst.zero, -1⟩
def Nd.bring (n : Nd) (k : K.Kn) : Nd := (n.admit k.i).set ⟨k.i, k.m, k.c, 0, -1⟩
def Nd.restore (n : Nd) (d : K.Dt) : Nd := d.l.foldl Nd.bring { n with ma := d.m, ep := ⟨d.c, d.v, d.f⟩, tab := d.t }
def loadS (id : Int) (D : K.Dsk.Ds) : Int × K.Dt × K.Dsk.Ds :=
  match K.Dsk.loadD D with
  | (0, some d) => if d.i = id then (0, d, D) else (30, d, D)
  | (e, _) => if e = 52 then
      let d0 : K.Dt := ⟨id, 0, 0, 0, 0, [], K.C.Tab.zero⟩
      ((K.Dsk.saveD D d0).1, d0, (K.Dsk.saveD D d0).2) else (e, K.Dt.zero, D)
def cfgB (id T : Int) : Bool := decide (1 ≤ id ∧ id ≤ 4294967296 ∧ 2 ≤ T ∧ T ≤ 1048576)
def startW (id T : Int) (D : K.Dsk.Ds) (now : Int) : Int × Option Nd × K.Dsk.Ds :=
  if (cfgB id T && isNow now) = false then (10, none, D)
  else
    let r := loadS id D
    if r.1 ≠ 0 then (r.1, none, r.2.2) else (0, some ((Nd.zero id T now).restore r.2.1), r.2.2)
end Go.Proofs.YteoodompphhkbaaGreatDoor.Nod
