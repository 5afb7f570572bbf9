/- The document's owns (layer 8): bits of who holds. No condition. -/
import Derived.Test.YtldoopjnjlpbpaaGreatDoorMD
set_option linter.unusedVariables false
set_option linter.unusedSimpArgs false
namespace Go.Proofs.YtldoopjnjlpbpaaGreatDoor
set_option maxRecDepth 100000
set_option linter.unusedSimpArgs false
set_option linter.unusedVariables false
def hoC:Bool:=(List.range 256).all fun h=>(List.range 8).all fun t=>(List.range 8).all fun j=>(bJ (ah .or .u8 (h:Int) (ah .shl .u8 1 (t:Int))) (j:Int)==(Nat.beq j t||bJ (h:Int) (j:Int)))&&(bJ (ah .andNot .u8 (h:Int) (ah .shl .u8 1 (t:Int))) (j:Int)==(!Nat.beq j t&&bJ (h:Int) (j:Int)))
theorem aa4:hoC=true:=by kernel_rfl
def Nd (b:Bool):Int:=if b=true then 1 else 0
def h_ (h:Int):Nat→Int
 | 0=>0
 | i+1=>h_ h i+Nd (bJ h (i:Int))
def ocC:Bool:=(List.range 256).all fun h=>sZ (h:Int)==h_ (h:Int) 8
theorem aa5:ocC=true:=by kernel_rfl
theorem acK {h:Int} (h0:0≤h) (h1:h≤255):sZ h=h_ h 8:=by
 obtain ⟨n,rfl⟩:∃ n:Nat,h=(n:Int):=⟨h.toNat,by omega⟩
 have:=List.all_eq_true.1 aa5 n (List.mem_range.2 (by omega))
 exact eq_of_beq this
theorem Zq {h t:Int} (h0:0≤h) (h1:h≤255) (t0:0≤t) (t1:t<8) (j:Nat) (hj:j<8):bJ (ah .or .u8 h (ah .shl .u8 1 t)) (j:Int)=(Nat.beq j t.toNat||bJ h (j:Int))∧bJ (ah .andNot .u8 h (ah .shl .u8 1 t)) (j:Int)=(!Nat.beq j t.toNat&&bJ h (j:Int)):=by
 obtain ⟨n,rfl⟩:∃ n:Nat,h=(n:Int):=⟨h.toNat,by omega⟩
 obtain ⟨s,rfl⟩:∃ s:Nat,t=(s:Int):=⟨t.toNat,by omega⟩
 have a:=List.all_eq_true.1 aa4 n (List.mem_range.2 (by omega))
 have b:=List.all_eq_true.1 a s (List.mem_range.2 (by omega))
 have c:=List.all_eq_true.1 b j (List.mem_range.2 hj)
 rw [Bool.and_eq_true] at c
 rw [Int.toNat_natCast]
 exact ⟨eq_of_beq c.1,eq_of_beq c.2⟩
def fY (h t:Int) (y:Bool):Int:=if y=true then ah .or .u8 h (ah .shl .u8 1 t) else ah .andNot .u8 h (ah .shl .u8 1 t)
theorem R5 (h t:Int) (y:Bool):0≤fY h t y∧fY h t y≤255:=by
 unfold fY
 split
 ·rw [aa6];exact L7 _
 ·exact Dq _ _
theorem X_ {k T h t:Int} (y:Bool) (h0:0≤h) (h1:h≤255) (t0:0≤t) (t1:t<8):(bT k T h).setIfInBounds (2+t.toNat*1) (.bool y)=bT k T (fY h t y):=by
 have key:∀ j:Nat,j<8→bJ (fY h t y) (j:Int)=if Nat.beq j t.toNat=true then y else bJ h (j:Int):=fun j hj=>by
  obtain ⟨a,b⟩:=Zq h0 h1 t0 t1 j hj
  unfold fY
  cases y with
  | true=>rw [if_pos rfl,a];cases Nat.beq j t.toNat <;> rfl
  | false=>rw [if_neg (by decide),b];cases Nat.beq j t.toNat <;> rfl
 have k0:bJ (fY h t y) 0=(if Nat.beq 0 t.toNat=true then y else bJ h 0):=key 0 (by decide)
 have k1:bJ (fY h t y) 1=(if Nat.beq 1 t.toNat=true then y else bJ h 1):=key 1 (by decide)
 have k2:bJ (fY h t y) 2=(if Nat.beq 2 t.toNat=true then y else bJ h 2):=key 2 (by decide)
 have k3:bJ (fY h t y) 3=(if Nat.beq 3 t.toNat=true then y else bJ h 3):=key 3 (by decide)
 have k4:bJ (fY h t y) 4=(if Nat.beq 4 t.toNat=true then y else bJ h 4):=key 4 (by decide)
 have k5:bJ (fY h t y) 5=(if Nat.beq 5 t.toNat=true then y else bJ h 5):=key 5 (by decide)
 have k6:bJ (fY h t y) 6=(if Nat.beq 6 t.toNat=true then y else bJ h 6):=key 6 (by decide)
 have k7:bJ (fY h t y) 7=(if Nat.beq 7 t.toNat=true then y else bJ h 7):=key 7 (by decide)
 unfold bT
 rw [k0,k1,k2,k3,k4,k5,k6,k7]
 have hs:t.toNat<8:=by omega
 generalize bJ h 0=b0
 generalize bJ h 1=b1
 generalize bJ h 2=b2
 generalize bJ h 3=b3
 generalize bJ h 4=b4
 generalize bJ h 5=b5
 generalize bJ h 6=b6
 generalize bJ h 7=b7
 generalize t.toNat=s at hs
 match s,hs with
 | 0,_ | 1,_ | 2,_ | 3,_ | 4,_ | 5,_ | 6,_ | 7,_=>rfl
theorem Zr {t:Int} (t0:0≤t) (t1:t<8):ah .shl .u8 1 t=2 ^ t.toNat:=by
 rcases (by omega:t=0∨t=1∨t=2∨t=3∨t=4∨t=5∨t=6∨t=7) with rfl | rfl | rfl | rfl | rfl | rfl | rfl | rfl <;> kernel_rfl
theorem aa7 {t:Int} (t0:0≤t) (t1:t<8):IntKind.u8.wrap t=t:=by
 rcases (by omega:t=0∨t=1∨t=2∨t=3∨t=4∨t=5∨t=6∨t=7) with rfl | rfl | rfl | rfl | rfl | rfl | rfl | rfl <;> kernel_rfl
set_option linter.unusedVariables false
def Ci (B N:Nat) (a' b':Array Value) (c:Int) (s:SV) (m:aj):Prop:=match s with
 | .bW [.agg (.ls [.f x,.f y]),.c (.f (.int .i64 k)),.c (.f (.int .i64 e))]=>xB B N a' b' x y m∧k.den=c∧e.den=0
 | _=>False
def Nf (n:Nat) (e0:Int) (s:SV) (m:aj):Prop:=match s with
 | .bW [.agg (.ls [.f (.slice 0 (.l 0) k _),.f (.slice 1 (.l 0) k' _)]),.c (.f (.int .i64 z)),.c (.f (.int .i64 e))]=>k.den=n∧k'.den=n∧z.den=0∧e.den=e0
 | _=>False
def GS (e0:Int) (s:SV) (m:aj):Prop:=match s with
 | .bW [.agg (.ls [.f (.lit (.slice none 0 0)),.f (.lit (.slice none 0 0))]),.c (.f (.int .i64 z)),.c (.f (.int .i64 e))]=>z.den=0∧e.den=e0
 | _=>False
noncomputable def yR (os ts:Array Value):Env:=⟨Tryz.prog,dg,AJ os ts,dy [22*1000+16]⟩
noncomputable def eY:List bh:=cY Tryz.f22 16
noncomputable def EL (n:Nat) (a:Array Value) (b:Array Value) (h:Int) (k:Int) (i:Int) (x:Array Value):List av:=[dw 22 Tryz.f22 [(2,i64 (.o h)),(5,ptr 2 (.l 0)),(10,ptr 3 (.l 0)),(14,ptr 4 (.l 0)),(15,i64 (.o k)),(16,i64 (.o i))] eY]
noncomputable def EM (n:Nat) (a:Array Value) (b:Array Value) (h:Int) (k:Int) (i:Int) (x:Array Value):aj:=cD 5 [(0,⟨.pop a,3,false⟩),(1,⟨.pop b,111,false⟩),(2,⟨.ls [.f (.slice 0 (.l 0) (.o n) .any),.f (.slice 1 (.l 0) (.o n) .any)],62,true⟩),(3,⟨.ls [.f (.lit (.slice none 0 0)),.f (.lit (.slice none 0 0))],62,true⟩),(4,⟨.op x,111,true⟩)]
def AL (n:Nat) (a:Array Value) (b:Array Value) (h:Int) (Q:Int→Int→Array Value→Prop) (fs:List av) (m:aj):Prop:=(match b9 fs 0 with | some f0=>(match dh f0 15 with | some k=>(match dh f0 16 with | some i=>(match aV f0 5 with | some p2=>(match aV f0 10 with | some p3=>(match aV f0 14 with | some p4=>(match cO m p4 with | some x=>Q k i x∧cV 2 [(2,p2),(3,p3),(4,p4)] (EL n a b h k i x) (EM n a b h k i x) fs m | none=>False) | none=>False) | none=>False) | none=>False) | none=>False) | none=>False) | none=>False)
theorem HO (r:Nat→Option Nat):ak r eY eY:=ak.it (by kernel_rfl)
theorem C2 {A:SV→aj→Prop} {n:Nat} {a:Array Value} {b:Array Value} {h:Int} {Q:Int→Int→Array Value→Prop} {fs:List av} {m:aj} (H:∀ k i x,Q k i x→Good Tryz.prog A 2 (EL n a b h k i x) (EM n a b h k i x)) (hb:AL n a b h Q fs m):Good Tryz.prog A 2 fs m:=by
 unfold AL at hb
 iterate 7 (split at hb;rotate_left;exact hb.elim)
 exact Good.c_ hb.2 (H _ _ _ hb.1)
set_option maxRecDepth 100000
noncomputable def f_ (os:Array Value) (ts:Array Value) (h:Int):Array Value:=bT (aW os ts h) (bt os ts h) (aR os ts h)
def AM (os:Array Value) (ts:Array Value) (n:Nat) (h:Int) (t:Int) (y:Bool) (e:Int):Prop:=(bq (f_ os ts h) (2+t.toNat*1)==y)=true→(y=true→n=n∧n=n∧(0:Int)=(0:Int)∧(7:Int)=e)∧(y=false→n=n∧n=n∧(0:Int)=(0:Int)∧(5:Int)=e)
def qw (ts:Array Value) (n:Nat) (h:Int) (e:Int):Prop:=(aI ts h != 0)=true→n=n∧n=n∧(0:Int)=(0:Int)∧aI ts h=e
noncomputable def qx (os:Array Value) (ts:Array Value) (h:Int) (t:Int) (y:Bool):Array Value:=Array.setIfInBounds (f_ os ts h) (2+t.toNat*1) (Value.bool y)
def qy (os:Array Value) (ts:Array Value) (h:Int) (t:Int):Prop:=2+t.toNat*1<(f_ os ts h).size∧True
def mK (t:Int):Prop:=(0≤t∧t<8)∧True
theorem jh0 (os ts ws a b:Array Value) (n:Nat) (h t:Int) (y:Bool) (e:Int) (Q:Int→Int→Array Value→Prop):(run (yR os ts) 1000 2 [a_ 22 Tryz.f22.ntmps [vS n,bg ws,i64 (.o h),i64 (.o t),sB (.o y)] (Tryz.f22.body.getD .skip)] (fM a b)).vc (Nf n e) (AL n a b h Q) =
  ((ws.size=448∧True)∧(SW ts ws∧ay ts∧True)∧(ws.size=448∧True)∧(SW ts ws∧ay ts∧bZ os ts a b n n∧True)∧((10:Nat)=10∧(10:Nat)=10∧True)∧(((aI ts h==0)==true)=true→(aA .i64 (f_ os ts h) 0∧True)∧((aa (f_ os ts h) 0 != 3)=true→n=n∧n=n∧(0:Int)=(0:Int)∧(12:Int)=e)∧((aa (f_ os ts h) 0 != 3)=false→(((aI ts h==0)==true)=true→((decide (t<0)==false)=true→(decide (t>7)=true→n=n∧n=n∧(0:Int)=(0:Int)∧(2:Int)=e)∧(decide (t>7)=false→(((aI ts h==0)==true)=true→(mK t)∧(bY (f_ os ts h) (2+t.toNat*1)∧True)∧(AM os ts n h t y e)∧((bq (f_ os ts h) (2+t.toNat*1)==y)=false→(qw ts n h e)∧((aI ts h != 0)=false→(mK t)∧(qy os ts h t)∧Q (0:Int) (0:Int) (qx os ts h t y)∧cN∧ak (aD 2 [(2,2),(3,4),(4,5)]) eY eY∧(0:Int)=(0:Int)∧h=h∧(0:Int)=(0:Int)∧3=3∧a=a∧111=111∧b=b∧62=62∧Value.slice none 0 0=Value.slice none 0 0∧Value.slice none 0 0=Value.slice none 0 0∧62=62∧n=n∧n=n∧111=111∧Array.setIfInBounds (f_ os ts h) (2+t.toNat*1) (Value.bool y)=Array.setIfInBounds (f_ os ts h) (2+t.toNat*1) (Value.bool y)∧True)))∧(((aI ts h==0)==true)=false→(qw ts n h e)∧((aI ts h != 0)=false→(mK t)∧(qy os ts h t)∧Q (0:Int) (0:Int) (qx os ts h t y)∧cN∧ak (aD 2 [(2,2),(3,4),(4,5)]) eY eY∧(0:Int)=(0:Int)∧h=h∧(0:Int)=(0:Int)∧3=3∧a=a∧111=111∧b=b∧62=62∧Value.slice none 0 0=Value.slice none 0 0∧Value.slice none 0 0=Value.slice none 0 0∧62=62∧n=n∧n=n∧111=111∧Array.setIfInBounds (f_ os ts h) (2+t.toNat*1) (Value.bool y)=Array.setIfInBounds (f_ os ts h) (2+t.toNat*1) (Value.bool y)∧True))))∧((decide (t<0)==false)=false→n=n∧n=n∧(0:Int)=(0:Int)∧(2:Int)=e))∧(((aI ts h==0)==true)=false→(((aI ts h==0)==true)=true→(mK t)∧(bY (f_ os ts h) (2+t.toNat*1)∧True)∧(AM os ts n h t y e)∧((bq (f_ os ts h) (2+t.toNat*1)==y)=false→(qw ts n h e)∧((aI ts h != 0)=false→(mK t)∧(qy os ts h t)∧Q (0:Int) (0:Int) (qx os ts h t y)∧cN∧ak (aD 2 [(2,2),(3,4),(4,5)]) eY eY∧(0:Int)=(0:Int)∧h=h∧(0:Int)=(0:Int)∧3=3∧a=a∧111=111∧b=b∧62=62∧Value.slice none 0 0=Value.slice none 0 0∧Value.slice none 0 0=Value.slice none 0 0∧62=62∧n=n∧n=n∧111=111∧Array.setIfInBounds (f_ os ts h) (2+t.toNat*1) (Value.bool y)=Array.setIfInBounds (f_ os ts h) (2+t.toNat*1) (Value.bool y)∧True)))∧(((aI ts h==0)==true)=false→(qw ts n h e)∧((aI ts h != 0)=false→(mK t)∧(qy os ts h t)∧Q (0:Int) (0:Int) (qx os ts h t y)∧cN∧ak (aD 2 [(2,2),(3,4),(4,5)]) eY eY∧(0:Int)=(0:Int)∧h=h∧(0:Int)=(0:Int)∧3=3∧a=a∧111=111∧b=b∧62=62∧Value.slice none 0 0=Value.slice none 0 0∧Value.slice none 0 0=Value.slice none 0 0∧62=62∧n=n∧n=n∧111=111∧Array.setIfInBounds (f_ os ts h) (2+t.toNat*1) (Value.bool y)=Array.setIfInBounds (f_ os ts h) (2+t.toNat*1) (Value.bool y)∧True)))))∧(((aI ts h==0)==true)=false→(((aI ts h==0)==true)=true→((decide (t<0)==false)=true→(decide (t>7)=true→n=n∧n=n∧(0:Int)=(0:Int)∧(2:Int)=e)∧(decide (t>7)=false→(((aI ts h==0)==true)=true→(mK t)∧(bY (f_ os ts h) (2+t.toNat*1)∧True)∧(AM os ts n h t y e)∧((bq (f_ os ts h) (2+t.toNat*1)==y)=false→(qw ts n h e)∧((aI ts h != 0)=false→(mK t)∧(qy os ts h t)∧Q (0:Int) (0:Int) (qx os ts h t y)∧cN∧ak (aD 2 [(2,2),(3,4),(4,5)]) eY eY∧(0:Int)=(0:Int)∧h=h∧(0:Int)=(0:Int)∧3=3∧a=a∧111=111∧b=b∧62=62∧Value.slice none 0 0=Value.slice none 0 0∧Value.slice none 0 0=Value.slice none 0 0∧62=62∧n=n∧n=n∧111=111∧Array.setIfInBounds (f_ os ts h) (2+t.toNat*1) (Value.bool y)=Array.setIfInBounds (f_ os ts h) (2+t.toNat*1) (Value.bool y)∧True)))∧(((aI ts h==0)==true)=false→(qw ts n h e)∧((aI ts h != 0)=false→(mK t)∧(qy os ts h t)∧Q (0:Int) (0:Int) (qx os ts h t y)∧cN∧ak (aD 2 [(2,2),(3,4),(4,5)]) eY eY∧(0:Int)=(0:Int)∧h=h∧(0:Int)=(0:Int)∧3=3∧a=a∧111=111∧b=b∧62=62∧Value.slice none 0 0=Value.slice none 0 0∧Value.slice none 0 0=Value.slice none 0 0∧62=62∧n=n∧n=n∧111=111∧Array.setIfInBounds (f_ os ts h) (2+t.toNat*1) (Value.bool y)=Array.setIfInBounds (f_ os ts h) (2+t.toNat*1) (Value.bool y)∧True))))∧((decide (t<0)==false)=false→n=n∧n=n∧(0:Int)=(0:Int)∧(2:Int)=e))∧(((aI ts h==0)==true)=false→(((aI ts h==0)==true)=true→(mK t)∧(bY (f_ os ts h) (2+t.toNat*1)∧True)∧(AM os ts n h t y e)∧((bq (f_ os ts h) (2+t.toNat*1)==y)=false→(qw ts n h e)∧((aI ts h != 0)=false→(mK t)∧(qy os ts h t)∧Q (0:Int) (0:Int) (qx os ts h t y)∧cN∧ak (aD 2 [(2,2),(3,4),(4,5)]) eY eY∧(0:Int)=(0:Int)∧h=h∧(0:Int)=(0:Int)∧3=3∧a=a∧111=111∧b=b∧62=62∧Value.slice none 0 0=Value.slice none 0 0∧Value.slice none 0 0=Value.slice none 0 0∧62=62∧n=n∧n=n∧111=111∧Array.setIfInBounds (f_ os ts h) (2+t.toNat*1) (Value.bool y)=Array.setIfInBounds (f_ os ts h) (2+t.toNat*1) (Value.bool y)∧True)))∧(((aI ts h==0)==true)=false→(qw ts n h e)∧((aI ts h != 0)=false→(mK t)∧(qy os ts h t)∧Q (0:Int) (0:Int) (qx os ts h t y)∧cN∧ak (aD 2 [(2,2),(3,4),(4,5)]) eY eY∧(0:Int)=(0:Int)∧h=h∧(0:Int)=(0:Int)∧3=3∧a=a∧111=111∧b=b∧62=62∧Value.slice none 0 0=Value.slice none 0 0∧Value.slice none 0 0=Value.slice none 0 0∧62=62∧n=n∧n=n∧111=111∧Array.setIfInBounds (f_ os ts h) (2+t.toNat*1) (Value.bool y)=Array.setIfInBounds (f_ os ts h) (2+t.toNat*1) (Value.bool y)∧True))))):=by kernel_rfl
noncomputable def EN (x:Array Value):Array Value:=#[Value.int .i64 (aa x 0),Value.int .i64 (aa x 1),Value.bool (bq x (2:Nat)),Value.bool (bq x (3:Nat)),Value.bool (bq x (4:Nat)),Value.bool (bq x (5:Nat)),Value.bool (bq x (6:Nat)),Value.bool (bq x (7:Nat)),Value.bool (bq x (8:Nat)),Value.bool (bq x (9:Nat))]
theorem UY (os ts a b:Array Value) (n:Nat) (h k i:Int) (x:Array Value) (N:Nat) (a' b':Array Value) (c:Int) (Q:Int→Int→Array Value→Prop):(stepT (yR os ts).go (run (yR os ts) 1000) 2 (EL n a b h k i x) (EM n a b h k i x)).vc (Ci 2 N a' b' c) (AL n a b h Q) =
  ((decide (i<8)=true→((0≤i∧i<8)∧True)∧(bY x (2+i.toNat*1)∧True)∧(bq x (2+i.toNat*1)=true→Q (ah .add .i64 k 1) (ah .add .i64 i 1) x∧cN∧ak (aD 2 [(2,2),(3,3),(4,4)]) eY eY∧ah .add .i64 k 1=ah .add .i64 k 1∧h=h∧ah .add .i64 i 1=ah .add .i64 i 1∧3=3∧a=a∧111=111∧b=b∧62=62∧Value.slice none 0 0=Value.slice none 0 0∧Value.slice none 0 0=Value.slice none 0 0∧62=62∧n=n∧n=n∧111=111∧x=x∧True)∧(bq x (2+i.toNat*1)=false→Q k (ah .add .i64 i 1) x∧cN∧ak (aD 2 [(2,2),(3,3),(4,4)]) eY eY∧k=k∧h=h∧ah .add .i64 i 1=ah .add .i64 i 1∧3=3∧a=a∧111=111∧b=b∧62=62∧Value.slice none 0 0=Value.slice none 0 0∧Value.slice none 0 0=Value.slice none 0 0∧62=62∧n=n∧n=n∧111=111∧x=x∧True))∧(decide (i<8)=false→(aA .i64 x 0∧aA .i64 x 1∧bY x (2:Nat)∧bY x (3:Nat)∧bY x (4:Nat)∧bY x (5:Nat)∧bY x (6:Nat)∧bY x (7:Nat)∧bY x (8:Nat)∧bY x (9:Nat)∧True)∧((∃ l,a=aE l∧n=l.length∧n=l.length∧l.length≤200)∧b.size=n*10∧gM (EN x)∧True)∧(true=true∧cz a h n=N∧cz a h n=N∧eC a h n=a'∧eD a b h n (EN x)=b'∧3=3∧111=111)∧k=c∧(0:Int)=(0:Int))):=by kernel_rfl
def AN (os:Array Value) (ts:Array Value) (h:Int) (t:Int) (y:Bool) (e:Int):Prop:=((aI ts h==0)==true)=true→((0≤t∧t<8)∧True)∧(bY (bT (aW os ts h) (bt os ts h) (aR os ts h)) (2+t.toNat*1)∧True)∧((bq (bT (aW os ts h) (bt os ts h) (aR os ts h)) (2+t.toNat*1)==y)=true→(y=true→(0:Int)=(0:Int)∧(7:Int)=e)∧(y=false→(0:Int)=(0:Int)∧(5:Int)=e))∧((bq (bT (aW os ts h) (bt os ts h) (aR os ts h)) (2+t.toNat*1)==y)=false→((aI ts h != 0)=true→(0:Int)=(0:Int)∧aI ts h=e)∧((aI ts h != 0)=false→((0≤t∧t<8)∧True)∧(2+t.toNat*1<(bT (aW os ts h) (bt os ts h) (aR os ts h)).size∧True)∧False))
def AO (os:Array Value) (ts:Array Value) (h:Int) (t:Int) (e:Int):Prop:=((aI ts h==0)==true)=false→((aI ts h != 0)=true→(0:Int)=(0:Int)∧aI ts h=e)∧((aI ts h != 0)=false→((0≤t∧t<8)∧True)∧(2+t.toNat*1<(bT (aW os ts h) (bt os ts h) (aR os ts h)).size∧True)∧False)
def EO (os:Array Value) (ts:Array Value) (h:Int) (t:Int) (y:Bool) (e:Int):Prop:=((aI ts h==0)==true)=true→((decide (t<0)==false)=true→(decide (t>7)=true→(0:Int)=(0:Int)∧(2:Int)=e)∧(decide (t>7)=false→(AN os ts h t y e)∧(AO os ts h t e)))∧((decide (t<0)==false)=false→(0:Int)=(0:Int)∧(2:Int)=e)
theorem UZ (os ts ws:Array Value) (h t:Int) (y:Bool) (e:Int):(run (yR os ts) 1000 0 [a_ 22 Tryz.f22.ntmps [ff,bg ws,i64 (.o h),i64 (.o t),sB (.o y)] (Tryz.f22.body.getD .skip)] aT).vc (GS e) (fun _ _=>False) =
  ((ws.size=448∧True)∧(SW ts ws∧ay ts∧True)∧(ws.size=448∧True)∧(SW ts ws∧ay ts∧dP os ts∧True)∧((10:Nat)=10∧(10:Nat)=10∧True)∧(((aI ts h==0)==true)=true→(aA .i64 (bT (aW os ts h) (bt os ts h) (aR os ts h)) (0:Nat)∧True)∧((aa (bT (aW os ts h) (bt os ts h) (aR os ts h)) (0:Nat) != 3)=true→(0:Int)=(0:Int)∧(12:Int)=e)∧((aa (bT (aW os ts h) (bt os ts h) (aR os ts h)) (0:Nat) != 3)=false→(EO os ts h t y e)∧(((aI ts h==0)==true)=false→(AN os ts h t y e)∧(AO os ts h t e))))∧(((aI ts h==0)==true)=false→(EO os ts h t y e)∧(((aI ts h==0)==true)=false→(AN os ts h t y e)∧(AO os ts h t e)))):=by kernel_rfl
noncomputable def gb (os:Array Value) (ts:Array Value) (h:Int):Array Value:=bT (aW os ts h) (bt os ts h) (aR os ts h)
noncomputable def qz (os:Array Value) (ts:Array Value) (h:Int) (t:Int) (y:Bool):Array Value:=Array.setIfInBounds (gb os ts h) (2+t.toNat*1) (Value.bool y)
def qA (os:Array Value) (ts:Array Value) (h:Int) (t:Int):Prop:=2+t.toNat*1<(gb os ts h).size∧True
def mL (t:Int):Prop:=(0≤t∧t<8)∧True
def AP (os:Array Value) (ts:Array Value) (h:Int) (t:Int) (y:Bool):Prop:=(bq (gb os ts h) (2+t.toNat*1)==y)=true→(y=true→False)∧(y=false→False)
theorem jh2 (os ts ws a b:Array Value) (n:Nat) (h t:Int) (y:Bool) (Q:Int→Int→Array Value→Prop):(run (yR os ts) 1000 2 [a_ 22 Tryz.f22.ntmps [vS n,bg ws,i64 (.o h),i64 (.o t),sB (.o y)] (Tryz.f22.body.getD .skip)] (fM a b)).vc (fun _ _=>False) (AL n a b h Q) =
  ((ws.size=448∧True)∧(SW ts ws∧ay ts∧True)∧(ws.size=448∧True)∧(SW ts ws∧ay ts∧bZ os ts a b n n∧True)∧((10:Nat)=10∧(10:Nat)=10∧True)∧(((aI ts h==0)==true)=true→(aA .i64 (gb os ts h) 0∧True)∧((aa (gb os ts h) 0 != 3)=true→False)∧((aa (gb os ts h) 0 != 3)=false→(((aI ts h==0)==true)=true→((decide (t<0)==false)=true→(decide (t>7)=true→False)∧(decide (t>7)=false→(((aI ts h==0)==true)=true→(mL t)∧(bY (gb os ts h) (2+t.toNat*1)∧True)∧(AP os ts h t y)∧((bq (gb os ts h) (2+t.toNat*1)==y)=false→((aI ts h != 0)=true→False)∧((aI ts h != 0)=false→(mL t)∧(qA os ts h t)∧Q (0:Int) (0:Int) (qz os ts h t y)∧cN∧ak (aD 2 [(2,2),(3,4),(4,5)]) eY eY∧(0:Int)=(0:Int)∧h=h∧(0:Int)=(0:Int)∧3=3∧a=a∧111=111∧b=b∧62=62∧Value.slice none 0 0=Value.slice none 0 0∧Value.slice none 0 0=Value.slice none 0 0∧62=62∧n=n∧n=n∧111=111∧Array.setIfInBounds (gb os ts h) (2+t.toNat*1) (Value.bool y)=Array.setIfInBounds (gb os ts h) (2+t.toNat*1) (Value.bool y)∧True)))∧(((aI ts h==0)==true)=false→((aI ts h != 0)=true→False)∧((aI ts h != 0)=false→(mL t)∧(qA os ts h t)∧Q (0:Int) (0:Int) (qz os ts h t y)∧cN∧ak (aD 2 [(2,2),(3,4),(4,5)]) eY eY∧(0:Int)=(0:Int)∧h=h∧(0:Int)=(0:Int)∧3=3∧a=a∧111=111∧b=b∧62=62∧Value.slice none 0 0=Value.slice none 0 0∧Value.slice none 0 0=Value.slice none 0 0∧62=62∧n=n∧n=n∧111=111∧Array.setIfInBounds (gb os ts h) (2+t.toNat*1) (Value.bool y)=Array.setIfInBounds (gb os ts h) (2+t.toNat*1) (Value.bool y)∧True))))∧((decide (t<0)==false)=false→False))∧(((aI ts h==0)==true)=false→(((aI ts h==0)==true)=true→(mL t)∧(bY (gb os ts h) (2+t.toNat*1)∧True)∧(AP os ts h t y)∧((bq (gb os ts h) (2+t.toNat*1)==y)=false→((aI ts h != 0)=true→False)∧((aI ts h != 0)=false→(mL t)∧(qA os ts h t)∧Q (0:Int) (0:Int) (qz os ts h t y)∧cN∧ak (aD 2 [(2,2),(3,4),(4,5)]) eY eY∧(0:Int)=(0:Int)∧h=h∧(0:Int)=(0:Int)∧3=3∧a=a∧111=111∧b=b∧62=62∧Value.slice none 0 0=Value.slice none 0 0∧Value.slice none 0 0=Value.slice none 0 0∧62=62∧n=n∧n=n∧111=111∧Array.setIfInBounds (gb os ts h) (2+t.toNat*1) (Value.bool y)=Array.setIfInBounds (gb os ts h) (2+t.toNat*1) (Value.bool y)∧True)))∧(((aI ts h==0)==true)=false→((aI ts h != 0)=true→False)∧((aI ts h != 0)=false→(mL t)∧(qA os ts h t)∧Q (0:Int) (0:Int) (qz os ts h t y)∧cN∧ak (aD 2 [(2,2),(3,4),(4,5)]) eY eY∧(0:Int)=(0:Int)∧h=h∧(0:Int)=(0:Int)∧3=3∧a=a∧111=111∧b=b∧62=62∧Value.slice none 0 0=Value.slice none 0 0∧Value.slice none 0 0=Value.slice none 0 0∧62=62∧n=n∧n=n∧111=111∧Array.setIfInBounds (gb os ts h) (2+t.toNat*1) (Value.bool y)=Array.setIfInBounds (gb os ts h) (2+t.toNat*1) (Value.bool y)∧True)))))∧(((aI ts h==0)==true)=false→(((aI ts h==0)==true)=true→((decide (t<0)==false)=true→(decide (t>7)=true→False)∧(decide (t>7)=false→(((aI ts h==0)==true)=true→(mL t)∧(bY (gb os ts h) (2+t.toNat*1)∧True)∧(AP os ts h t y)∧((bq (gb os ts h) (2+t.toNat*1)==y)=false→((aI ts h != 0)=true→False)∧((aI ts h != 0)=false→(mL t)∧(qA os ts h t)∧Q (0:Int) (0:Int) (qz os ts h t y)∧cN∧ak (aD 2 [(2,2),(3,4),(4,5)]) eY eY∧(0:Int)=(0:Int)∧h=h∧(0:Int)=(0:Int)∧3=3∧a=a∧111=111∧b=b∧62=62∧Value.slice none 0 0=Value.slice none 0 0∧Value.slice none 0 0=Value.slice none 0 0∧62=62∧n=n∧n=n∧111=111∧Array.setIfInBounds (gb os ts h) (2+t.toNat*1) (Value.bool y)=Array.setIfInBounds (gb os ts h) (2+t.toNat*1) (Value.bool y)∧True)))∧(((aI ts h==0)==true)=false→((aI ts h != 0)=true→False)∧((aI ts h != 0)=false→(mL t)∧(qA os ts h t)∧Q (0:Int) (0:Int) (qz os ts h t y)∧cN∧ak (aD 2 [(2,2),(3,4),(4,5)]) eY eY∧(0:Int)=(0:Int)∧h=h∧(0:Int)=(0:Int)∧3=3∧a=a∧111=111∧b=b∧62=62∧Value.slice none 0 0=Value.slice none 0 0∧Value.slice none 0 0=Value.slice none 0 0∧62=62∧n=n∧n=n∧111=111∧Array.setIfInBounds (gb os ts h) (2+t.toNat*1) (Value.bool y)=Array.setIfInBounds (gb os ts h) (2+t.toNat*1) (Value.bool y)∧True))))∧((decide (t<0)==false)=false→False))∧(((aI ts h==0)==true)=false→(((aI ts h==0)==true)=true→(mL t)∧(bY (gb os ts h) (2+t.toNat*1)∧True)∧(AP os ts h t y)∧((bq (gb os ts h) (2+t.toNat*1)==y)=false→((aI ts h != 0)=true→False)∧((aI ts h != 0)=false→(mL t)∧(qA os ts h t)∧Q (0:Int) (0:Int) (qz os ts h t y)∧cN∧ak (aD 2 [(2,2),(3,4),(4,5)]) eY eY∧(0:Int)=(0:Int)∧h=h∧(0:Int)=(0:Int)∧3=3∧a=a∧111=111∧b=b∧62=62∧Value.slice none 0 0=Value.slice none 0 0∧Value.slice none 0 0=Value.slice none 0 0∧62=62∧n=n∧n=n∧111=111∧Array.setIfInBounds (gb os ts h) (2+t.toNat*1) (Value.bool y)=Array.setIfInBounds (gb os ts h) (2+t.toNat*1) (Value.bool y)∧True)))∧(((aI ts h==0)==true)=false→((aI ts h != 0)=true→False)∧((aI ts h != 0)=false→(mL t)∧(qA os ts h t)∧Q (0:Int) (0:Int) (qz os ts h t y)∧cN∧ak (aD 2 [(2,2),(3,4),(4,5)]) eY eY∧(0:Int)=(0:Int)∧h=h∧(0:Int)=(0:Int)∧3=3∧a=a∧111=111∧b=b∧62=62∧Value.slice none 0 0=Value.slice none 0 0∧Value.slice none 0 0=Value.slice none 0 0∧62=62∧n=n∧n=n∧111=111∧Array.setIfInBounds (gb os ts h) (2+t.toNat*1) (Value.bool y)=Array.setIfInBounds (gb os ts h) (2+t.toNat*1) (Value.bool y)∧True))))):=by kernel_rfl
set_option linter.unusedVariables false
theorem wZ (os ts:Array Value):bf (yR os ts):=bf.with aU _ _ (Ip os ts)
def cr (os ts:Array Value) (h t:Int) (y:Bool):Int:=if aI ts h≠0 then aI ts h else if aW os ts h≠3 then 12 else if dK t≠0 then dK t else if bJ (aR os ts h) t=y then (if y=true then 7 else 5) else 0
theorem w4 (k T h:Int) {t:Int} (t0:0≤t) (t1:t<8):bY (bT k T h) (2+t.toNat*1)∧bq (bT k T h) (2+t.toNat*1)=bJ h t:=by
 obtain ⟨s,rfl⟩:∃ s:Nat,t=(s:Int):=⟨t.toNat,by omega⟩
 have hs:s<8:=by omega
 rw [Int.toNat_natCast]
 match s,hs with
 | 0,_ | 1,_ | 2,_ | 3,_ | 4,_ | 5,_ | 6,_ | 7,_=>exact ⟨rfl,rfl⟩
theorem R6 (h:Int):∀ i:Nat,0≤h_ h i∧h_ h i≤(i:Int)
 | 0=>⟨Int.le_refl 0,Int.le_refl 0⟩
 | i+1=>by
  have:=R6 h i
  unfold h_ Nd
  split <;> omega
section
variable {os ts ws a b:Array Value} {n:Nat} {h t:Int} {y:Bool}
theorem L8 (e:cr os ts h t y=0):aI ts h=0∧aW os ts h=3∧0≤t∧t<8∧bJ (aR os ts h) t≠y:=by
 unfold cr at e
 split at e
 ·rename_i c;exact absurd e c
 rename_i c
 split at e
 ·exact absurd e (by decide)
 rename_i d
 split at e
 ·rename_i f;exact absurd e f
 rename_i f
 have tt:=yj (Decidable.not_not.1 f)
 split at e
 ·split at e <;> exact absurd e (by decide)
 rename_i g
 exact ⟨Decidable.not_not.1 c,Decidable.not_not.1 d,tt.1,tt.2,g⟩
theorem aa8 (ha:iT a n n) (hb:b.size=n*10) (k T H:Int):∀ (r i:Nat),i+r=8→Good Tryz.prog (Ci 2 (cz a h n) (eC a h n) (eD a b h n (bT k T H)) (h_ H 8)) 2 (EL n a b h (h_ H i) (i:Int) (bT k T H)) (EM n a b h (h_ H i) (i:Int) (bT k T H)):=by
 intro r
 induction r with
 | zero =>
  intro i hi
  obtain rfl:i=8:=by omega
  refine bD (wZ #[] #[]) 1000 (UY #[] #[] a b n h _ _ (bT k T H) (cz a h n) (eC a h n) (eD a b h n (bT k T H)) (h_ H 8) (fun _ _ _=>False)) ?_ (fun _ _ h=>h) (fun fs m hb=>C2 (fun _ _ _ h=>h.elim) hb)
  unfold EN
  have d:decide (((8:Nat):Int)<8)=false:=rfl
  have hex:∃ l,a=aE l∧n=l.length∧n=l.length∧l.length≤200:=ha
  have hx:=z_ k T H
  have xr:=hx.r
  have xi:=hx.i
  simp only [d,xr,xi,hx,hex,hb,q6]
 | succ r ih =>
  intro i hi
  have hi':i<8:=by omega
  have d:decide ((i:Int)<8)=true:=decide_eq_true (by omega)
  have y0:0≤(i:Int):=by omega
  have y1:(i:Int)<8:=by omega
  have ei:ah .add .i64 (i:Int) 1=((i+1:Nat):Int):=by rw [dn,cC (by omega) (by omega)];omega
  have ci:=R6 H i
  have ek:ah .add .i64 (h_ H i) 1=h_ H i+1:=by rw [dn,cC (by omega) (by omega)]
  obtain ⟨xb,vb⟩:=w4 k T H y0 y1
  have e1:h_ H (i+1)=h_ H i+Nd (bJ H (i:Int)):=rfl
  refine bD (wZ #[] #[]) 1000 (UY #[] #[] a b n h _ (i:Int) (bT k T H) (cz a h n) (eC a h n) (eD a b h n (bT k T H)) (h_ H 8) (fun k' i' x'=>k'=h_ H (i+1)∧i'=((i+1:Nat):Int)∧x'=bT k T H)) ?_ (fun _ _ h=>h) (fun fs m hb=>C2 (fun k' i' x' ⟨q1,q2,q3⟩=>by rw [q1,q2,q3];exact ih (i+1) (by omega)) hb)
  unfold EN
  cases c:bJ H (i:Int) with
  | true =>
   have e2:h_ H (i+1)=h_ H i+1:=by rw [e1,c];rfl
   simp only [d,y0,y1,ei,ek,e2,xb,vb,c,decide_true,HO,q6]
  | false =>
   have e2:h_ H (i+1)=h_ H i:=by rw [e1,c];exact Int.add_zero _
   simp only [d,y0,y1,ei,ek,e2,xb,vb,c,decide_true,HO,q6]
theorem Ya (w:SW ts ws) (hf:ay ts) (hr:bZ os ts a b n n) (hh:0≤aR os ts h∧aR os ts h≤255) (hE:cr os ts h t y=0) :
  Good Tryz.prog (Ci 2 (cz a h n) (eC a h n) (eD a b h n (bT (aW os ts h) (bt os ts h) (fY (aR os ts h) t y))) (h_ (fY (aR os ts h) t y) 8)) 2 [a_ 22 Tryz.f22.ntmps [vS n,bg ws,i64 (.o h),i64 (.o t),sB (.o y)] (Tryz.f22.body.getD .skip)] (fM a b):=by
 obtain ⟨c,k,t0,t1,q⟩:=L8 hE
 have hz:=w.sz
 have x0:aA .i64 (bT (aW os ts h) (bt os ts h) (aR os ts h)) 0:=rfl
 have v0:aa (bT (aW os ts h) (bt os ts h) (aR os ts h)) 0=aW os ts h:=rfl
 have s0:(bT (aW os ts h) (bt os ts h) (aR os ts h)).size=10:=rfl
 have k0:(aW os ts h != 3)=false:=by rw [k];rfl
 obtain ⟨xb,vb⟩:=w4 (aW os ts h) (bt os ts h) (aR os ts h) t0 t1
 have m0:(aI ts h==0)=true:=beq_iff_eq.2 c
 have m1:(aI ts h != 0)=false:=by rw [c];rfl
 have d1:decide (t<0)=false:=decide_eq_false (by omega)
 have d2:decide (t>7)=false:=decide_eq_false (by omega)
 have y3:2+t.toNat*1<10:=by omega
 have q0:(bJ (aR os ts h) t==y)=false:=beq_eq_false_iff_ne.2 q
 have es:=X_ (k:=aW os ts h) (T:=bt os ts h) y hh.1 hh.2 t0 t1
 refine bA (wZ os ts) 1000 (jh2 os ts ws a b n h t y (fun k i x=>k=0∧i=((0:Nat):Int)∧x=bT (aW os ts h) (bt os ts h) (fY (aR os ts h) t y))) ?_ (fun s m h=>h.elim) fun fs m hb=>C2 (fun k' i' x' ⟨q1,q2,q3⟩=>by rw [q1,q2,q3];exact aa8 hr.l hr.sz _ _ _ 8 0 (Nat.zero_add _)) hb
 unfold AP mL qA
 try unfold qz
 unfold gb
 simp only [hz,w,hf,hr,x0,v0,s0,k0,xb,vb,m0,m1,d1,d2,y3,q0,es,t0,t1,beq_self_eq_true,decide_true,HO,q6]
 rfl
theorem Yb (w:SW ts ws) (hf:ay ts) (hr:bZ os ts a b n n) (hE:cr os ts h t y≠0) :
  Good Tryz.prog (Nf n (cr os ts h t y)) 2 [a_ 22 Tryz.f22.ntmps [vS n,bg ws,i64 (.o h),i64 (.o t),sB (.o y)] (Tryz.f22.body.getD .skip)] (fM a b):=by
 have hz:=w.sz
 have x0:aA .i64 (bT (aW os ts h) (bt os ts h) (aR os ts h)) 0:=rfl
 have v0:aa (bT (aW os ts h) (bt os ts h) (aR os ts h)) 0=aW os ts h:=rfl
 refine bA (wZ os ts) 1000 (jh0 os ts ws a b n h t y (cr os ts h t y) (fun _ _ _=>False)) ?_ (fun s m h=>h) fun fs m hb=>C2 (fun _ _ _ h=>h.elim) hb
 unfold mK qy
 try unfold qx
 unfold qw AM f_
 by_cases c:aI ts h=0
 ·have m0:(aI ts h==0)=true:=beq_iff_eq.2 c
  by_cases k:aW os ts h=3
  ·have k0:(aW os ts h != 3)=false:=by rw [k];rfl
   by_cases d:0≤t∧t<8
   ·have t0:=d.1
    have t1:=d.2
    have d1:decide (t<0)=false:=decide_eq_false (by omega)
    have d2:decide (t>7)=false:=decide_eq_false (by omega)
    have e:cr os ts h t y=if bJ (aR os ts h) t=y then (if y=true then 7 else 5) else 0:=by
     unfold cr dK
     rw [if_neg (fun q=>q c),if_neg (fun q=>q k),if_pos d,if_neg (fun q=>q rfl)]
    obtain ⟨xb,vb⟩:=w4 (aW os ts h) (bt os ts h) (aR os ts h) t0 t1
    by_cases q:bJ (aR os ts h) t=y
    ·rw [if_pos q] at e
     have q0:(bJ (aR os ts h) t==y)=true:=beq_iff_eq.2 q
     cases y with
     | true =>
      rw [if_pos rfl] at e
      simp only [hz,w,hf,hr,x0,v0,k0,xb,vb,m0,d1,d2,q0,e,t0,t1,beq_self_eq_true,decide_true,q6]
     | false =>
      rw [if_neg (by decide)] at e
      simp only [hz,w,hf,hr,x0,v0,k0,xb,vb,m0,d1,d2,q0,e,t0,t1,beq_self_eq_true,decide_true,q6]
    ·exact absurd (e.trans (if_neg q)) hE
   ·have mt:dK t=2:=if_neg d
    have e:cr os ts h t y=2:=by
     unfold cr
     rw [if_neg (fun q=>q c),if_neg (fun q=>q k),mt,if_pos (by decide)]
    by_cases d0:t<0
    ·have d1:decide (t<0)=true:=decide_eq_true d0
     have c6:(true==false)=false:=rfl
     simp only [hz,w,hf,hr,x0,v0,k0,m0,d1,c6,e,beq_self_eq_true,q6]
    ·have d1:decide (t<0)=false:=decide_eq_false d0
     have d2:decide (t>7)=true:=decide_eq_true (by omega)
     simp only [hz,w,hf,hr,x0,v0,k0,m0,d1,d2,e,beq_self_eq_true,q6]
  ·have k0:(aW os ts h != 3)=true:=bne_iff_ne.2 k
   have e:cr os ts h t y=12:=by
    unfold cr
    rw [if_neg (fun q=>q c),if_pos k]
   simp only [hz,w,hf,hr,x0,v0,k0,m0,e,beq_self_eq_true,q6]
 ·have m0:(aI ts h==0)=false:=beq_eq_false_iff_ne.2 c
  have m1:(aI ts h != 0)=true:=bne_iff_ne.2 c
  have e:cr os ts h t y=aI ts h:=if_pos c
  have c6:(false==true)=false:=rfl
  simp only [hz,w,hf,hr,x0,v0,m0,m1,c6,e,beq_self_eq_true,q6]
theorem Iq (w:SW ts ws) (hf:ay ts) (hn:dP os ts):cr os ts h t y≠0 ∧
  Good Tryz.prog (GS (cr os ts h t y)) 0 [a_ 22 Tryz.f22.ntmps [ff,bg ws,i64 (.o h),i64 (.o t),sB (.o y)] (Tryz.f22.body.getD .skip)] aT:=by
 have hz:=w.sz
 have x0:aA .i64 (bT (aW os ts h) (bt os ts h) (aR os ts h)) 0:=rfl
 have v0:aa (bT (aW os ts h) (bt os ts h) (aR os ts h)) 0=aW os ts h:=rfl
 have k:aW os ts h=0:=(JG hf hn h).1
 have k0:(aW os ts h != 3)=true:=by rw [k];rfl
 by_cases c:aI ts h=0
 ·have m0:(aI ts h==0)=true:=beq_iff_eq.2 c
  have e:cr os ts h t y=12:=by
   unfold cr
   rw [if_neg (fun q=>q c),if_pos (by rw [k];decide)]
  refine ⟨by rw [e];decide,bA (wZ os ts) 1000 (UZ os ts ws h t y (cr os ts h t y)) ?_ (fun s m h=>h) fun fs m hb=>hb.elim⟩
  unfold EO AO AN
  simp only [hz,w,hf,hn,x0,v0,k0,m0,e,beq_self_eq_true,q6]
 ·have m0:(aI ts h==0)=false:=beq_eq_false_iff_ne.2 c
  have m1:(aI ts h != 0)=true:=bne_iff_ne.2 c
  have e:cr os ts h t y=aI ts h:=if_pos c
  have c6:(false==true)=false:=rfl
  refine ⟨by rw [e];exact c,bA (wZ os ts) 1000 (UZ os ts ws h t y (cr os ts h t y)) ?_ (fun s m h=>h) fun fs m hb=>hb.elim⟩
  unfold EO AO AN
  simp only [hz,w,hf,hn,x0,v0,m0,m1,c6,e,beq_self_eq_true,q6]
end
set_option linter.unusedVariables false
def U0 (N:Nat) (c0:Int) (p q:Nat) (s:SV):Prop:=∃ n k c d z e,s=.bW [.agg (.ls [.f (.slice p (.l 0) n c),.f (.slice q (.l 0) k d)]),.c (.f (.int .i64 z)),.c (.f (.int .i64 e))]∧n.den=N∧k.den=N∧z.den=c0∧e.den=0
def Nh (N:Nat) (c0:Int) (i j:Nat):SV:=.bW [.agg (.ls [.f (.slice i (.l 0) (.o N) .any),.f (.slice j (.l 0) (.o N) .any)]),.c (.f (.int .i64 (.o c0))),.c (.f (.int .i64 (.l 0)))]
theorem Yc {B N:Nat} {c0:Int} {a b:Array Value} {s:SV} {m:aj} (h:Ci B N a b c0 s m):AK (U0 N c0) B a b 3 111 s m:=by
 unfold Ci at h
 split at h
 ·rename_i z e
  obtain ⟨h,hz,he⟩:=h
  obtain ⟨p,q,n,k,c,d,x1,y1,rfl,rfl,h1,h2,h3,h4,h5,h6,h7,h8,h9⟩:=C0 h
  exact ⟨p,q,x1,y1,h3,h4,h5,⟨n,k,c,d,z,e,rfl,h1,h2,hz,he⟩,h6,h7,h8,h9⟩
 ·exact h.elim
theorem acL (N:Nat) (c0:Int):∀ (R R':aX) (v:Value) (p q i j:Nat) (g1 g2:Loc) (s:SV),R p=some g1→R q=some g2→R' i=some g1→R' j=some g2→U0 N c0 p q s→s.ok R v→(Nh N c0 i j).ok R' v:=by
 rintro R R' v p q i j g1 g2 s r1 r2 s1 s2 ⟨n,k,c,d,z,e,rfl,e1,e2,e3,e4⟩ hv
 obtain ⟨vs,rfl,hl⟩:=hv
 match hc:vs.toList,hl with
 | [u,x,y],⟨hu,hx,hy,_⟩ =>
  refine ⟨vs,rfl,?_⟩
  rw [hc]
  refine ⟨uA N R R' u p q i j g1 g2 _ r1 r2 s1 s2 ⟨n,k,c,d,rfl,e1,e2⟩ hu,?_,?_,trivial⟩
  ·have hx:x=.int .i64 z.den:=hx
   rw [e3] at hx
   exact hx
  ·have hy:y=.int .i64 e.den:=hy
   rw [e4] at hy
   exact hy
theorem JH:E0.fn 22=some Tryz.f22:=by kernel_rfl
theorem Ir:Tryz.f22.body=some (Tryz.f22.body.getD .skip):=by kernel_rfl
section
variable {os ts ws a b:Array Value} {h t:Int} {y:Bool}
theorem WR {m:aj} {i j:Nat} {n k':SN} {c1 c2:SK} {w1 w2:Bool} (dZ:aH m.bl i=some ⟨.pop a,3,w1⟩) (e_:aH m.bl j=some ⟨.pop b,111,w2⟩) :
  aq E0 22 [.s (.agg (.ls [.f (.slice i (.l 0) n c1),.f (.slice j (.l 0) k' c2)])),bg ws,i64 (.o h),i64 (.o t),sB (.o y)] m (bu [SW ts ws,ay ts,bZ os ts a b n.den k'.den,0≤aR os ts h∧aR os ts h≤255,cr os ts h t y=0] (.ret (Nh (cz a h n.den) (h_ (fY (aR os ts h) t y) 8) m.next (m.next+1)) (lp m (eC a h n.den) (eD a b h n.den (bT (aW os ts h) (bt os ts h) (fY (aR os ts h) t y))) 3 111))):=by
 refine aq.asked fun hq=>?_
 have w:SW ts ws:=hq _ (by simp)
 have hf:ay ts:=hq _ (by simp)
 have hr:bZ os ts a b n.den k'.den:=hq _ (by simp)
 have hh:0≤aR os ts h∧aR os ts h≤255:=hq _ (by simp)
 have hE:cr os ts h t y=0:=hq _ (by simp)
 obtain ⟨l,el,e1,e2,e3⟩:=hr.l
 have ek:k'.den=n.den:=e2.trans e1.symm
 have hn:bZ os ts a b n.den n.den:=by rw [ek] at hr;exact hr
 refine (show aq E0 22 _ m (bu [] _) from aq.uy aU JH Ir rfl (fun q=>if q=0 then i else j) (m4 dZ e_) (l':=[vS n.den,bg ws,i64 (.o h),i64 (.o t),sB (.o y)]) (fun R vs ha=>?_) (acL (cz a h n.den) (h_ (fY (aR os ts h) t y) 8)) (fun _=>(Ya w hf hn hh hE).mono fun s m h=>Yc h))
 match vs,ha with
 | [u,v,x,y,z],ha=>exact ⟨o9 rfl ek rfl ha.1,ha.2.1,ha.2.2.1,ha.2.2.2.1,ha.2.2.2.2.1,trivial⟩
theorem WS {m:aj} {i j:Nat} {n k':SN} {c1 c2:SK} {w1 w2:Bool} (dZ:aH m.bl i=some ⟨.pop a,3,w1⟩) (e_:aH m.bl j=some ⟨.pop b,111,w2⟩) :
  aq E0 22 [.s (.agg (.ls [.f (.slice i (.l 0) n c1),.f (.slice j (.l 0) k' c2)])),bg ws,i64 (.o h),i64 (.o t),sB (.o y)] m (bu [SW ts ws,ay ts,bZ os ts a b n.den k'.den,cr os ts h t y≠0] (.ret (.bW [.agg (.ls [.f (.slice i (.l 0) (.o n.den) .any),.f (.slice j (.l 0) (.o n.den) .any)]),.c (.f (.int .i64 (.l 0))),.c (.f (.int .i64 (.o (cr os ts h t y))))]) m)):=by
 refine aq.asked fun hq=>?_
 have w:SW ts ws:=hq _ (by simp)
 have hf:ay ts:=hq _ (by simp)
 have hr:bZ os ts a b n.den k'.den:=hq _ (by simp)
 have hE:cr os ts h t y≠0:=hq _ (by simp)
 obtain ⟨l,el,e1,e2,e3⟩:=hr.l
 have ek:k'.den=n.den:=e2.trans e1.symm
 have hn:bZ os ts a b n.den n.den:=by rw [ek] at hr;exact hr
 refine (show aq E0 22 _ m (bu [] _) from aq.xC aU JH Ir rfl (fun q=>if q=0 then i else j) (m4 dZ e_) (l':=[vS n.den,bg ws,i64 (.o h),i64 (.o t),sB (.o y)]) (fun R vs ha=>?_) (fun _=>Yb w hf hn hE) fun s m' R R' v hs hx hg hv=>?_)
 ·match vs,ha with
  | [u,v,x,y,z],ha=>exact ⟨o9 rfl ek rfl ha.1,ha.2.1,ha.2.2.1,ha.2.2.2.1,ha.2.2.2.2.1,trivial⟩
 ·obtain ⟨g1,r1⟩:=hg _ _ dZ
  obtain ⟨g2,r2⟩:=hg _ _ e_
  have s1:R' 0=some g1:=hx 0 g1 r1
  have s2:R' 1=some g2:=hx 1 g2 r2
  unfold Nf at hs
  split at hs
  ·obtain ⟨f1,f2,f3,f4⟩:=hs
   obtain ⟨vs,rfl,hl⟩:=hv
   match hc:vs.toList,hl with
   | [u,x,z],⟨hu,hx,hz,_⟩ =>
    refine ⟨vs,rfl,?_⟩
    rw [hc]
    refine ⟨uA n.den R' R u 0 1 i j g1 g2 _ s1 s2 r1 r2 ⟨_,_,_,_,rfl,f1,f2⟩ hu,?_,?_,trivial⟩
    ·show x=.int .i64 0
     rw [← f3]
     exact hx
    ·show z=.int .i64 (cr os ts h t y)
     rw [← f4]
     exact hz
  ·exact hs.elim
theorem WU (m:aj):aq E0 22 [ff,bg ws,i64 (.o h),i64 (.o t),sB (.o y)] m (bu [SW ts ws,ay ts,dP os ts] (.ret (.bW [.agg (.ls [.f (.lit (.slice none 0 0)),.f (.lit (.slice none 0 0))]),.c (.f (.int .i64 (.l 0))),.c (.f (.int .i64 (.o (cr os ts h t y))))]) m)):=by
 refine aq.xC aU JH Ir rfl (fun q=>q) (ms:=aT) (fun i b hb=>?_) (l':=[ff,bg ws,i64 (.o h),i64 (.o t),sB (.o y)]) (fun R vs ha=>?_) (fun hq=>?_) (fun s m' R R' v hs hx hg hv=>?_) (A:=GS (cr os ts h t y))
 ·have hb:(Tr.nil:Tr bN).get i=some b:=hb
  rw [Tr.get_nil] at hb
  cases hb
 ·exact mw rfl ha
 ·exact (Iq (hq _ (by simp)) (hq _ (by simp)) (hq _ (by simp))).2
 ·unfold GS at hs
  split at hs
  ·obtain ⟨f3,f4⟩:=hs
   obtain ⟨vs,rfl,hl⟩:=hv
   match hc:vs.toList,hl with
   | [u,x,z],⟨hu,hx,hz,_⟩ =>
    refine ⟨vs,rfl,?_⟩
    rw [hc]
    refine ⟨(wX (s:=ff) rfl hu:ff.ok R u),?_,?_,trivial⟩
    ·show x=.int .i64 0
     rw [← f3]
     exact hx
    ·show z=.int .i64 (cr os ts h t y)
     rw [← f4]
     exact hz
  ·exact hs.elim
end
set_option linter.unusedVariables false
noncomputable def AQ (os ts:Array Value) (g:FuncId) (l:List SV) (m:aj):Option Tree:=match AJ os ts g l m with | some t=>some t | none=>sj ts g l m
noncomputable def lF (os ts:Array Value):Env:=⟨Tryz.prog,dg,AQ os ts,dy [12*1000+4,12*1000+9]⟩
noncomputable def Ni (os ts:Array Value):Env:=⟨Tryz.prog,dg,AQ os ts,dy [12*1000+6]⟩
def Ab (k:Nat) (cs:Array Value) (s:SV) (m:aj):Prop:=match s with | .s (.c (.f (.slice id (.l 0) (.o n) (.full 1))))=>(match aH m.bl id with | some ⟨.pop ds,ty,true⟩=>Nat.ble 2 id=true∧n=k∧ds=cs∧ty=3 | _=>False) | _=>False
noncomputable def fH (os ts:Array Value) (x:Int):Array Value:=bT (aW os ts x) (bt os ts x) (aR os ts x)
def TU (P:Prop) (s:SV) (_:aj):Prop:=match s with | .s (.c (.f (.lit (.slice none 0 0))))=>P | _=>False
noncomputable def mg:aj:=cD 2 []
noncomputable def dI:List bh:=cY Tryz.f12 4
noncomputable def uB (ws:Array Value) (a:Array Value) (b:Array Value) (n:Nat) (t:Int) (y:Bool) (k:Nat) (rs:Array Value) (i:Int):List av:=[dw 12 Tryz.f12 [(2,i64 (.o t)),(3,sB (.o y)),(4,ptr 2 (.l 0)),(5,ptr 3 (.l 0)),(9,jd),(10,fK 4 k),(11,i64 (.o i))] dI]
noncomputable def uC (ws:Array Value) (a:Array Value) (b:Array Value) (n:Nat) (t:Int) (y:Bool) (k:Nat) (rs:Array Value) (i:Int):aj:=cD 5 [(0,⟨.pop a,3,false⟩),(1,⟨.pop b,111,false⟩),(2,⟨.ls [.f (.slice 0 (.l 0) (.o n) .any),.f (.slice 1 (.l 0) (.o n) .any)],62,true⟩),(3,⟨.op ws,51,true⟩),(4,⟨.pop rs,3,true⟩)]
def EP (ws:Array Value) (a:Array Value) (b:Array Value) (n:Nat) (t:Int) (y:Bool) (k:Nat) (rs:Array Value) (Q:Int→Prop) (fs:List av) (m:aj):Prop:=(match b9 fs 0 with | some f0=>(match dh f0 11 with | some i=>(match aV f0 4 with | some p2=>(match aV f0 5 with | some p3=>(match fG f0 10 with | some p4=>Q i∧cV 2 [(2,p2),(3,p3),(4,p4)] (uB ws a b n t y k rs i) (uC ws a b n t y k rs i) fs m | none=>False) | none=>False) | none=>False) | none=>False) | none=>False)
noncomputable def JI:List bh:=cY Tryz.f12 4
noncomputable def uD (ws:Array Value) (a:Array Value) (b:Array Value) (n:Nat) (t:Int) (y:Bool) (k:Nat) (rs:Array Value) (i:Int) (j:Nat) (cs:Array Value):List av:=[dw 12 Tryz.f12 [(2,i64 (.o t)),(3,sB (.o y)),(4,ptr 2 (.l 0)),(5,ptr 3 (.l 0)),(9,fK 5 j),(10,fK 4 k),(11,i64 (.o i))] JI]
noncomputable def uE (ws:Array Value) (a:Array Value) (b:Array Value) (n:Nat) (t:Int) (y:Bool) (k:Nat) (rs:Array Value) (i:Int) (j:Nat) (cs:Array Value):aj:=cD 6 [(0,⟨.pop a,3,false⟩),(1,⟨.pop b,111,false⟩),(2,⟨.ls [.f (.slice 0 (.l 0) (.o n) .any),.f (.slice 1 (.l 0) (.o n) .any)],62,true⟩),(3,⟨.op ws,51,true⟩),(4,⟨.pop rs,3,true⟩),(5,⟨.pop cs,3,true⟩)]
def ER (ws:Array Value) (a:Array Value) (b:Array Value) (n:Nat) (t:Int) (y:Bool) (k:Nat) (rs:Array Value) (Q:Int→Nat→Array Value→Prop) (fs:List av) (m:aj):Prop:=(match b9 fs 0 with | some f0=>(match dh f0 11 with | some i=>(match aV f0 4 with | some p2=>(match aV f0 5 with | some p3=>(match fG f0 10 with | some p4=>(match fG f0 9 with | some p5=>(match qR f0 9 with | some j=>(match cO m p5 with | some cs=>Q i j cs∧cV 2 [(2,p2),(3,p3),(4,p4),(5,p5)] (uD ws a b n t y k rs i j cs) (uE ws a b n t y k rs i j cs) fs m | none=>False) | none=>False) | none=>False) | none=>False) | none=>False) | none=>False) | none=>False) | none=>False)
noncomputable def JJ:List bh:=cY Tryz.f12 4
noncomputable def AR (ws:Array Value) (t:Int) (y:Bool) (k:Nat) (rs:Array Value) (i:Int):List av:=[dw 12 Tryz.f12 [(2,i64 (.o t)),(3,sB (.o y)),(4,ptr 2 (.l 0)),(5,ptr 3 (.l 0)),(9,jd),(10,fK 4 k),(11,i64 (.o i))] JJ]
noncomputable def AS (ws:Array Value) (t:Int) (y:Bool) (k:Nat) (rs:Array Value) (i:Int):aj:=cD 5 [(2,⟨.ls [.f (.lit (.slice none 0 0)),.f (.lit (.slice none 0 0))],62,true⟩),(3,⟨.op ws,51,true⟩),(4,⟨.pop rs,3,true⟩)]
def ES (ws:Array Value) (t:Int) (y:Bool) (k:Nat) (rs:Array Value) (Q:Int→Prop) (fs:List av) (m:aj):Prop:=(match b9 fs 0 with | some f0=>(match dh f0 11 with | some i=>(match aV f0 4 with | some p2=>(match aV f0 5 with | some p3=>(match fG f0 10 with | some p4=>Q i∧cV 2 [(2,p2),(3,p3),(4,p4)] (AR ws t y k rs i) (AS ws t y k rs i) fs m | none=>False) | none=>False) | none=>False) | none=>False) | none=>False)
noncomputable def dF:List bh:=cY Tryz.f12 9
noncomputable def ET (ws:Array Value) (a:Array Value) (b:Array Value) (n:Nat) (t:Int) (y:Bool) (k:Nat) (rs:Array Value) (i:Int) (o:Bool) (e:Bool):List av:=[dw 12 Tryz.f12 [(2,i64 (.o t)),(3,sB (.o y)),(4,ptr 2 (.l 0)),(5,ptr 3 (.l 0)),(9,jd),(10,fK 4 k),(11,i64 (.o i)),(13,sB (.o o)),(14,sB (.o e))] dF]
noncomputable def EU (ws:Array Value) (a:Array Value) (b:Array Value) (n:Nat) (t:Int) (y:Bool) (k:Nat) (rs:Array Value) (i:Int) (o:Bool) (e:Bool):aj:=cD 5 [(0,⟨.pop a,3,false⟩),(1,⟨.pop b,111,false⟩),(2,⟨.ls [.f (.slice 0 (.l 0) (.o n) .any),.f (.slice 1 (.l 0) (.o n) .any)],62,true⟩),(3,⟨.op ws,51,true⟩),(4,⟨.pop rs,3,true⟩)]
def KP (ws:Array Value) (a:Array Value) (b:Array Value) (n:Nat) (t:Int) (y:Bool) (k:Nat) (rs:Array Value) (Q:Int→Bool→Bool→Prop) (fs:List av) (m:aj):Prop:=(match b9 fs 0 with | some f0=>(match dh f0 11 with | some i=>(match ym f0 13 with | some o=>(match ym f0 14 with | some e=>(match aV f0 4 with | some p2=>(match aV f0 5 with | some p3=>(match fG f0 10 with | some p4=>Q i o e∧cV 2 [(2,p2),(3,p3),(4,p4)] (ET ws a b n t y k rs i o e) (EU ws a b n t y k rs i o e) fs m | none=>False) | none=>False) | none=>False) | none=>False) | none=>False) | none=>False) | none=>False)
noncomputable def JK:List bh:=cY Tryz.f12 9
noncomputable def EV (ws:Array Value) (a:Array Value) (b:Array Value) (n:Nat) (t:Int) (y:Bool) (k:Nat) (rs:Array Value) (i:Int) (o:Bool) (e:Bool) (j:Nat) (cs:Array Value):List av:=[dw 12 Tryz.f12 [(2,i64 (.o t)),(3,sB (.o y)),(4,ptr 2 (.l 0)),(5,ptr 3 (.l 0)),(9,fK 5 j),(10,fK 4 k),(11,i64 (.o i)),(13,sB (.o o)),(14,sB (.o e))] JK]
noncomputable def EW (ws:Array Value) (a:Array Value) (b:Array Value) (n:Nat) (t:Int) (y:Bool) (k:Nat) (rs:Array Value) (i:Int) (o:Bool) (e:Bool) (j:Nat) (cs:Array Value):aj:=cD 6 [(0,⟨.pop a,3,false⟩),(1,⟨.pop b,111,false⟩),(2,⟨.ls [.f (.slice 0 (.l 0) (.o n) .any),.f (.slice 1 (.l 0) (.o n) .any)],62,true⟩),(3,⟨.op ws,51,true⟩),(4,⟨.pop rs,3,true⟩),(5,⟨.pop cs,3,true⟩)]
def KQ (ws:Array Value) (a:Array Value) (b:Array Value) (n:Nat) (t:Int) (y:Bool) (k:Nat) (rs:Array Value) (Q:Int→Bool→Bool→Nat→Array Value→Prop) (fs:List av) (m:aj):Prop:=(match b9 fs 0 with | some f0=>(match dh f0 11 with | some i=>(match ym f0 13 with | some o=>(match ym f0 14 with | some e=>(match aV f0 4 with | some p2=>(match aV f0 5 with | some p3=>(match fG f0 10 with | some p4=>(match fG f0 9 with | some p5=>(match qR f0 9 with | some j=>(match cO m p5 with | some cs=>Q i o e j cs∧cV 2 [(2,p2),(3,p3),(4,p4),(5,p5)] (EV ws a b n t y k rs i o e j cs) (EW ws a b n t y k rs i o e j cs) fs m | none=>False) | none=>False) | none=>False) | none=>False) | none=>False) | none=>False) | none=>False) | none=>False) | none=>False) | none=>False)
noncomputable def JL:List bh:=cY Tryz.f12 9
noncomputable def EX (ws:Array Value) (t:Int) (y:Bool) (k:Nat) (rs:Array Value) (i:Int) (o:Bool) (e:Bool):List av:=[dw 12 Tryz.f12 [(2,i64 (.o t)),(3,sB (.o y)),(4,ptr 2 (.l 0)),(5,ptr 3 (.l 0)),(9,jd),(10,fK 4 k),(11,i64 (.o i)),(13,sB (.o o)),(14,sB (.o e))] JL]
noncomputable def EZ (ws:Array Value) (t:Int) (y:Bool) (k:Nat) (rs:Array Value) (i:Int) (o:Bool) (e:Bool):aj:=cD 5 [(2,⟨.ls [.f (.lit (.slice none 0 0)),.f (.lit (.slice none 0 0))],62,true⟩),(3,⟨.op ws,51,true⟩),(4,⟨.pop rs,3,true⟩)]
def KR (ws:Array Value) (t:Int) (y:Bool) (k:Nat) (rs:Array Value) (Q:Int→Bool→Bool→Prop) (fs:List av) (m:aj):Prop:=(match b9 fs 0 with | some f0=>(match dh f0 11 with | some i=>(match ym f0 13 with | some o=>(match ym f0 14 with | some e=>(match aV f0 4 with | some p2=>(match aV f0 5 with | some p3=>(match fG f0 10 with | some p4=>Q i o e∧cV 2 [(2,p2),(3,p3),(4,p4)] (EX ws t y k rs i o e) (EZ ws t y k rs i o e) fs m | none=>False) | none=>False) | none=>False) | none=>False) | none=>False) | none=>False) | none=>False)
def L9 (ws a b:Array Value) (n:Nat) (t:Int) (y:Bool) (k:Nat) (rs:Array Value) (QZ:Int→Prop) (QS:Int→Nat→Array Value→Prop) (fs:List av) (m:aj):Prop:=match fs with | f :: _=>(match f.tm.get 9 with | some (.s (.c (.f (.slice _ _ _ _))))=>ER ws a b n t y k rs QS fs m | _=>EP ws a b n t y k rs QZ fs m) | []=>False
noncomputable def Nj (n:Nat) (ws:Array Value) (t:Int) (y:Bool):List SV:=[vS n,bg ws,i64 (.o t),sB (.o y)]
noncomputable def Nk (ws:Array Value) (t:Int) (y:Bool):List SV:=[ff,bg ws,i64 (.o t),sB (.o y)]
theorem wv (r:Nat→Option Nat):ak r dI dI:=ak.it (by kernel_rfl)
theorem aeT (r:Nat→Option Nat):ak r JI JI:=ak.it (by kernel_rfl)
theorem aeU (r:Nat→Option Nat):ak r JJ JJ:=ak.it (by kernel_rfl)
theorem CH (r:Nat→Option Nat):ak r dF dF:=ak.it (by kernel_rfl)
theorem aeV (r:Nat→Option Nat):ak r JK JK:=ak.it (by kernel_rfl)
theorem aeW (r:Nat→Option Nat):ak r JL JL:=ak.it (by kernel_rfl)
theorem Is {A:SV→aj→Prop} {ws:Array Value} {a:Array Value} {b:Array Value} {n:Nat} {t:Int} {y:Bool} {k:Nat} {rs:Array Value} {Q:Int→Prop} {fs:List av} {m:aj} (H:∀ i,Q i→Good Tryz.prog A 2 (uB ws a b n t y k rs i) (uC ws a b n t y k rs i)) (hb:EP ws a b n t y k rs Q fs m):Good Tryz.prog A 2 fs m:=by
 unfold EP at hb
 iterate 5 (split at hb;rotate_left;exact hb.elim)
 exact Good.c_ hb.2 (H _ hb.1)
theorem PA {A:SV→aj→Prop} {ws:Array Value} {a:Array Value} {b:Array Value} {n:Nat} {t:Int} {y:Bool} {k:Nat} {rs:Array Value} {Q:Int→Nat→Array Value→Prop} {fs:List av} {m:aj} (H:∀ i j cs,Q i j cs→Good Tryz.prog A 2 (uD ws a b n t y k rs i j cs) (uE ws a b n t y k rs i j cs)) (hb:ER ws a b n t y k rs Q fs m):Good Tryz.prog A 2 fs m:=by
 unfold ER at hb
 iterate 8 (split at hb;rotate_left;exact hb.elim)
 exact Good.c_ hb.2 (H _ _ _ hb.1)
theorem PB {A:SV→aj→Prop} {ws:Array Value} {t:Int} {y:Bool} {k:Nat} {rs:Array Value} {Q:Int→Prop} {fs:List av} {m:aj} (H:∀ i,Q i→Good Tryz.prog A 2 (AR ws t y k rs i) (AS ws t y k rs i)) (hb:ES ws t y k rs Q fs m):Good Tryz.prog A 2 fs m:=by
 unfold ES at hb
 iterate 5 (split at hb;rotate_left;exact hb.elim)
 exact Good.c_ hb.2 (H _ hb.1)
theorem It {A:SV→aj→Prop} {ws:Array Value} {a:Array Value} {b:Array Value} {n:Nat} {t:Int} {y:Bool} {k:Nat} {rs:Array Value} {Q:Int→Bool→Bool→Prop} {fs:List av} {m:aj} (H:∀ i o e,Q i o e→Good Tryz.prog A 2 (ET ws a b n t y k rs i o e) (EU ws a b n t y k rs i o e)) (hb:KP ws a b n t y k rs Q fs m):Good Tryz.prog A 2 fs m:=by
 unfold KP at hb
 iterate 7 (split at hb;rotate_left;exact hb.elim)
 exact Good.c_ hb.2 (H _ _ _ hb.1)
theorem PC {A:SV→aj→Prop} {ws:Array Value} {a:Array Value} {b:Array Value} {n:Nat} {t:Int} {y:Bool} {k:Nat} {rs:Array Value} {Q:Int→Bool→Bool→Nat→Array Value→Prop} {fs:List av} {m:aj} (H:∀ i o e j cs,Q i o e j cs→Good Tryz.prog A 2 (EV ws a b n t y k rs i o e j cs) (EW ws a b n t y k rs i o e j cs)) (hb:KQ ws a b n t y k rs Q fs m):Good Tryz.prog A 2 fs m:=by
 unfold KQ at hb
 iterate 10 (split at hb;rotate_left;exact hb.elim)
 exact Good.c_ hb.2 (H _ _ _ _ _ hb.1)
theorem PD {A:SV→aj→Prop} {ws:Array Value} {t:Int} {y:Bool} {k:Nat} {rs:Array Value} {Q:Int→Bool→Bool→Prop} {fs:List av} {m:aj} (H:∀ i o e,Q i o e→Good Tryz.prog A 2 (EX ws t y k rs i o e) (EZ ws t y k rs i o e)) (hb:KR ws t y k rs Q fs m):Good Tryz.prog A 2 fs m:=by
 unfold KR at hb
 iterate 7 (split at hb;rotate_left;exact hb.elim)
 exact Good.c_ hb.2 (H _ _ _ hb.1)
set_option maxRecDepth 100000
theorem jtA (os ts ws a b:Array Value) (n:Nat) (t:Int) (y:Bool):(run (Ni os ts) 1000 2 [a_ 12 Tryz.f12.ntmps (Nj n ws t y) (Tryz.f12.body.getD .skip)] (fM a b)).vc iZ (fun _ _=>False) =
  ((ws.size=448∧True)∧(SW ts ws∧aM ts∧True)∧(decide ((af ts).length=0)=true→True)∧(decide ((af ts).length=0)=false→(decide ((0:Int)<(↑((af ts).length):Int))=true→False)∧(decide ((0:Int)<(↑((af ts).length):Int))=false→True))):=by kernel_rfl
theorem U1 (os ts ws a b:Array Value) (n:Nat) (t:Int) (y:Bool) (k:Nat) (rs:Array Value) (Q:Int→Prop):(run (lF os ts) 1000 2 [a_ 12 Tryz.f12.ntmps (Nj n ws t y) (Tryz.f12.body.getD .skip)] (fM a b)).vc (fun _ _=>False) (EP ws a b n t y k rs Q) =
  ((ws.size=448∧True)∧(SW ts ws∧aM ts∧True)∧(decide ((af ts).length=0)=true→False)∧(decide ((af ts).length=0)=false→Q (0:Int)∧cN∧ak (aD 2 [(2,2),(3,3),(4,4)]) dI dI∧y=y∧(0:Int)=(0:Int)∧Value.slice none 0 0=Value.slice none 0 0∧t=t∧k=(af ts).length∧3=3∧a=a∧111=111∧b=b∧51=51∧ws=ws∧62=62∧n=n∧n=n∧3=3∧rs=aE (af ts)∧True)):=by kernel_rfl
noncomputable def fP (os:Array Value) (ts:Array Value) (rs:Array Value) (i:Int):Array Value:=fH os ts (aa rs (0+i.toNat*1))
noncomputable def nU (t:Int):Int:=ah .and .i64 t 7
theorem Nl (os ts ws a b:Array Value) (n:Nat) (t:Int) (y:Bool) (k:Nat) (rs:Array Value) (i:Int) (P:Prop) (Q:Int→Bool→Bool→Prop):(stepT (lF os ts).go (run (lF os ts) 1000) 2 (uB ws a b n t y k rs i) (uC ws a b n t y k rs i)).vc (TU P) (KP ws a b n t y k rs Q) =
  ((decide (i<(↑k:Int))=true→(ws.size=448∧True)∧((0≤i∧i<(↑k:Int))∧True)∧(aA .i64 rs (0+i.toNat*1)∧True)∧(SW ts ws∧ay ts∧bZ os ts a b n n∧True)∧((10:Nat)=10∧(10:Nat)=10∧True)∧(aA .i64 (fP os ts rs i) 0∧True)∧(((aa (fP os ts rs i) 0==1)==true)=true→(aA .i64 (fP os ts rs i) 1∧True)∧(aA .i64 (fP os ts rs i) 0∧True)∧(((aa (fP os ts rs i) 0==3)==true)=true→((decide (t≥0)==true)=true→((decide (t<8)==true)=true→((0≤ah .and .i64 t 7∧ah .and .i64 t 7<8)∧True)∧(bY (fP os ts rs i) (2+(nU t).toNat*1)∧True)∧Q i (aa (fP os ts rs i) 1==t) (bq (fP os ts rs i) (2+(nU t).toNat*1))∧cN∧ak (aD 2 [(2,2),(3,3),(4,4)]) dF dF∧y=y∧i=i∧Value.slice none 0 0=Value.slice none 0 0∧(aa (fP os ts rs i) 1==t)=(aa (fP os ts rs i) 1==t)∧t=t∧k=k∧bq (fP os ts rs i) (2+(nU t).toNat*1)=bq (fP os ts rs i) (2+(nU t).toNat*1)∧3=3∧a=a∧111=111∧b=b∧51=51∧ws=ws∧62=62∧n=n∧n=n∧3=3∧rs=rs∧True)∧((decide (t<8)==true)=false→Q i (aa (fP os ts rs i) 1==t) false∧cN∧ak (aD 2 [(2,2),(3,3),(4,4)]) dF dF∧y=y∧i=i∧Value.slice none 0 0=Value.slice none 0 0∧(aa (fP os ts rs i) 1==t)=(aa (fP os ts rs i) 1==t)∧t=t∧k=k∧false=false∧3=3∧a=a∧111=111∧b=b∧51=51∧ws=ws∧62=62∧n=n∧n=n∧3=3∧rs=rs∧True))∧((decide (t≥0)==true)=false→Q i (aa (fP os ts rs i) 1==t) false∧cN∧ak (aD 2 [(2,2),(3,3),(4,4)]) dF dF∧y=y∧i=i∧Value.slice none 0 0=Value.slice none 0 0∧(aa (fP os ts rs i) 1==t)=(aa (fP os ts rs i) 1==t)∧t=t∧k=k∧false=false∧3=3∧a=a∧111=111∧b=b∧51=51∧ws=ws∧62=62∧n=n∧n=n∧3=3∧rs=rs∧True))∧(((aa (fP os ts rs i) 0==3)==true)=false→Q i (aa (fP os ts rs i) 1==t) false∧cN∧ak (aD 2 [(2,2),(3,3),(4,4)]) dF dF∧y=y∧i=i∧Value.slice none 0 0=Value.slice none 0 0∧(aa (fP os ts rs i) 1==t)=(aa (fP os ts rs i) 1==t)∧t=t∧k=k∧false=false∧3=3∧a=a∧111=111∧b=b∧51=51∧ws=ws∧62=62∧n=n∧n=n∧3=3∧rs=rs∧True))∧(((aa (fP os ts rs i) 0==1)==true)=false→(aA .i64 (fP os ts rs i) 0∧True)∧(((aa (fP os ts rs i) 0==3)==true)=true→((decide (t≥0)==true)=true→((decide (t<8)==true)=true→((0≤ah .and .i64 t 7∧ah .and .i64 t 7<8)∧True)∧(bY (fP os ts rs i) (2+(nU t).toNat*1)∧True)∧Q i false (bq (fP os ts rs i) (2+(nU t).toNat*1))∧cN∧ak (aD 2 [(2,2),(3,3),(4,4)]) dF dF∧y=y∧i=i∧Value.slice none 0 0=Value.slice none 0 0∧false=false∧t=t∧k=k∧bq (fP os ts rs i) (2+(nU t).toNat*1)=bq (fP os ts rs i) (2+(nU t).toNat*1)∧3=3∧a=a∧111=111∧b=b∧51=51∧ws=ws∧62=62∧n=n∧n=n∧3=3∧rs=rs∧True)∧((decide (t<8)==true)=false→Q i false false∧cN∧ak (aD 2 [(2,2),(3,3),(4,4)]) dF dF∧y=y∧i=i∧Value.slice none 0 0=Value.slice none 0 0∧false=false∧t=t∧k=k∧false=false∧3=3∧a=a∧111=111∧b=b∧51=51∧ws=ws∧62=62∧n=n∧n=n∧3=3∧rs=rs∧True))∧((decide (t≥0)==true)=false→Q i false false∧cN∧ak (aD 2 [(2,2),(3,3),(4,4)]) dF dF∧y=y∧i=i∧Value.slice none 0 0=Value.slice none 0 0∧false=false∧t=t∧k=k∧false=false∧3=3∧a=a∧111=111∧b=b∧51=51∧ws=ws∧62=62∧n=n∧n=n∧3=3∧rs=rs∧True))∧(((aa (fP os ts rs i) 0==3)==true)=false→Q i false false∧cN∧ak (aD 2 [(2,2),(3,3),(4,4)]) dF dF∧y=y∧i=i∧Value.slice none 0 0=Value.slice none 0 0∧false=false∧t=t∧k=k∧false=false∧3=3∧a=a∧111=111∧b=b∧51=51∧ws=ws∧62=62∧n=n∧n=n∧3=3∧rs=rs∧True)))∧(decide (i<(↑k:Int))=false→P)):=by kernel_rfl
noncomputable def o_ (rs:Array Value) (i:Int):Array Value:=#[Value.int .i64 (aa rs (0+i.toNat*1))]
def xD (rs:Array Value) (i:Int):Prop:=aA .i64 rs (0+i.toNat*1)∧True
noncomputable def qB (i:Int):Int:=ah .add .i64 i 1
theorem jtD (os ts ws a b:Array Value) (n:Nat) (t:Int) (y:Bool) (k:Nat) (rs:Array Value) (i:Int) (o e:Bool) (QZ:Int→Prop) (QS:Int→Nat→Array Value→Prop):(stepT (lF os ts).go (run (lF os ts) 1000) 2 (ET ws a b n t y k rs i o e) (EU ws a b n t y k rs i o e)).vc (fun _ _=>False) (L9 ws a b n t y k rs QZ QS) =
  ((ws.size=448∧True)∧((0≤i∧i<(↑k:Int))∧True)∧(xD rs i)∧(SW ts ws∧ay ts∧True)∧((0≤i∧i<(↑k:Int))∧True)∧(xD rs i)∧(((aO ts (aa rs (0+i.toNat*1))==aa rs (0+i.toNat*1))==true)=true→(((!y)==true)=true→((o==false)=true→((y==true)=true→(e=true→((0≤i∧i<(↑k:Int))∧True)∧(xD rs i)∧QS (qB i) (1:Nat) (o_ rs i)∧cN∧ak (aD 2 [(2,2),(3,3),(4,4),(5,6)]) dI dI∧y=y∧ah .add .i64 i 1=ah .add .i64 i 1∧(1:Nat)=1∧t=t∧k=k∧3=3∧a=a∧111=111∧b=b∧51=51∧ws=ws∧3=3∧(o_ rs i)=(o_ rs i)∧62=62∧n=n∧n=n∧3=3∧rs=rs∧True)∧(e=false→QZ (qB i)∧cN∧ak (aD 2 [(2,2),(3,3),(4,4)]) dI dI∧y=y∧ah .add .i64 i 1=ah .add .i64 i 1∧Value.slice none 0 0=Value.slice none 0 0∧t=t∧k=k∧3=3∧a=a∧111=111∧b=b∧51=51∧ws=ws∧62=62∧n=n∧n=n∧3=3∧rs=rs∧True))∧((y==true)=false→QZ (qB i)∧cN∧ak (aD 2 [(2,2),(3,3),(4,4)]) dI dI∧y=y∧ah .add .i64 i 1=ah .add .i64 i 1∧Value.slice none 0 0=Value.slice none 0 0∧t=t∧k=k∧3=3∧a=a∧111=111∧b=b∧51=51∧ws=ws∧62=62∧n=n∧n=n∧3=3∧rs=rs∧True))∧((o==false)=false→((0≤i∧i<(↑k:Int))∧True)∧(xD rs i)∧QS (qB i) (1:Nat) (o_ rs i)∧cN∧ak (aD 2 [(2,2),(3,3),(4,4),(5,6)]) dI dI∧y=y∧ah .add .i64 i 1=ah .add .i64 i 1∧(1:Nat)=1∧t=t∧k=k∧3=3∧a=a∧111=111∧b=b∧51=51∧ws=ws∧3=3∧(o_ rs i)=(o_ rs i)∧62=62∧n=n∧n=n∧3=3∧rs=rs∧True))∧(((!y)==true)=false→((y==true)=true→(e=true→((0≤i∧i<(↑k:Int))∧True)∧(xD rs i)∧QS (qB i) (1:Nat) (o_ rs i)∧cN∧ak (aD 2 [(2,2),(3,3),(4,4),(5,6)]) dI dI∧y=y∧ah .add .i64 i 1=ah .add .i64 i 1∧(1:Nat)=1∧t=t∧k=k∧3=3∧a=a∧111=111∧b=b∧51=51∧ws=ws∧3=3∧(o_ rs i)=(o_ rs i)∧62=62∧n=n∧n=n∧3=3∧rs=rs∧True)∧(e=false→QZ (qB i)∧cN∧ak (aD 2 [(2,2),(3,3),(4,4)]) dI dI∧y=y∧ah .add .i64 i 1=ah .add .i64 i 1∧Value.slice none 0 0=Value.slice none 0 0∧t=t∧k=k∧3=3∧a=a∧111=111∧b=b∧51=51∧ws=ws∧62=62∧n=n∧n=n∧3=3∧rs=rs∧True))∧((y==true)=false→QZ (qB i)∧cN∧ak (aD 2 [(2,2),(3,3),(4,4)]) dI dI∧y=y∧ah .add .i64 i 1=ah .add .i64 i 1∧Value.slice none 0 0=Value.slice none 0 0∧t=t∧k=k∧3=3∧a=a∧111=111∧b=b∧51=51∧ws=ws∧62=62∧n=n∧n=n∧3=3∧rs=rs∧True)))∧(((aO ts (aa rs (0+i.toNat*1))==aa rs (0+i.toNat*1))==true)=false→QZ (qB i)∧cN∧ak (aD 2 [(2,2),(3,3),(4,4)]) dI dI∧y=y∧ah .add .i64 i 1=ah .add .i64 i 1∧Value.slice none 0 0=Value.slice none 0 0∧t=t∧k=k∧3=3∧a=a∧111=111∧b=b∧51=51∧ws=ws∧62=62∧n=n∧n=n∧3=3∧rs=rs∧True)):=by kernel_rfl
noncomputable def fT (os:Array Value) (ts:Array Value) (rs:Array Value) (i:Int):Array Value:=fH os ts (aa rs (0+i.toNat*1))
noncomputable def pg (t:Int):Int:=ah .and .i64 t 7
theorem U2 (os ts ws a b:Array Value) (n:Nat) (t:Int) (y:Bool) (k:Nat) (rs:Array Value) (i:Int) (j:Nat) (cs:Array Value) (kF:Nat) (cj:Array Value) (QS:Int→Bool→Bool→Nat→Array Value→Prop):(stepT (lF os ts).go (run (lF os ts) 1000) 2 (uD ws a b n t y k rs i j cs) (uE ws a b n t y k rs i j cs)).vc (Ab kF cj) (KQ ws a b n t y k rs QS) =
  ((decide (i<(↑k:Int))=true→(ws.size=448∧True)∧((0≤i∧i<(↑k:Int))∧True)∧(aA .i64 rs (0+i.toNat*1)∧True)∧(SW ts ws∧ay ts∧bZ os ts a b n n∧True)∧((10:Nat)=10∧(10:Nat)=10∧True)∧(aA .i64 (fT os ts rs i) 0∧True)∧(((aa (fT os ts rs i) 0==1)==true)=true→(aA .i64 (fT os ts rs i) 1∧True)∧(aA .i64 (fT os ts rs i) 0∧True)∧(((aa (fT os ts rs i) 0==3)==true)=true→((decide (t≥0)==true)=true→((decide (t<8)==true)=true→((0≤ah .and .i64 t 7∧ah .and .i64 t 7<8)∧True)∧(bY (fT os ts rs i) (2+(pg t).toNat*1)∧True)∧QS i (aa (fT os ts rs i) 1==t) (bq (fT os ts rs i) (2+(pg t).toNat*1)) j cs∧cN∧ak (aD 2 [(2,2),(3,3),(4,4),(5,5)]) dF dF∧y=y∧i=i∧j=j∧(aa (fT os ts rs i) 1==t)=(aa (fT os ts rs i) 1==t)∧t=t∧k=k∧bq (fT os ts rs i) (2+(pg t).toNat*1)=bq (fT os ts rs i) (2+(pg t).toNat*1)∧3=3∧a=a∧111=111∧b=b∧51=51∧ws=ws∧3=3∧cs=cs∧62=62∧n=n∧n=n∧3=3∧rs=rs∧True)∧((decide (t<8)==true)=false→QS i (aa (fT os ts rs i) 1==t) false j cs∧cN∧ak (aD 2 [(2,2),(3,3),(4,4),(5,5)]) dF dF∧y=y∧i=i∧j=j∧(aa (fT os ts rs i) 1==t)=(aa (fT os ts rs i) 1==t)∧t=t∧k=k∧false=false∧3=3∧a=a∧111=111∧b=b∧51=51∧ws=ws∧3=3∧cs=cs∧62=62∧n=n∧n=n∧3=3∧rs=rs∧True))∧((decide (t≥0)==true)=false→QS i (aa (fT os ts rs i) 1==t) false j cs∧cN∧ak (aD 2 [(2,2),(3,3),(4,4),(5,5)]) dF dF∧y=y∧i=i∧j=j∧(aa (fT os ts rs i) 1==t)=(aa (fT os ts rs i) 1==t)∧t=t∧k=k∧false=false∧3=3∧a=a∧111=111∧b=b∧51=51∧ws=ws∧3=3∧cs=cs∧62=62∧n=n∧n=n∧3=3∧rs=rs∧True))∧(((aa (fT os ts rs i) 0==3)==true)=false→QS i (aa (fT os ts rs i) 1==t) false j cs∧cN∧ak (aD 2 [(2,2),(3,3),(4,4),(5,5)]) dF dF∧y=y∧i=i∧j=j∧(aa (fT os ts rs i) 1==t)=(aa (fT os ts rs i) 1==t)∧t=t∧k=k∧false=false∧3=3∧a=a∧111=111∧b=b∧51=51∧ws=ws∧3=3∧cs=cs∧62=62∧n=n∧n=n∧3=3∧rs=rs∧True))∧(((aa (fT os ts rs i) 0==1)==true)=false→(aA .i64 (fT os ts rs i) 0∧True)∧(((aa (fT os ts rs i) 0==3)==true)=true→((decide (t≥0)==true)=true→((decide (t<8)==true)=true→((0≤ah .and .i64 t 7∧ah .and .i64 t 7<8)∧True)∧(bY (fT os ts rs i) (2+(pg t).toNat*1)∧True)∧QS i false (bq (fT os ts rs i) (2+(pg t).toNat*1)) j cs∧cN∧ak (aD 2 [(2,2),(3,3),(4,4),(5,5)]) dF dF∧y=y∧i=i∧j=j∧false=false∧t=t∧k=k∧bq (fT os ts rs i) (2+(pg t).toNat*1)=bq (fT os ts rs i) (2+(pg t).toNat*1)∧3=3∧a=a∧111=111∧b=b∧51=51∧ws=ws∧3=3∧cs=cs∧62=62∧n=n∧n=n∧3=3∧rs=rs∧True)∧((decide (t<8)==true)=false→QS i false false j cs∧cN∧ak (aD 2 [(2,2),(3,3),(4,4),(5,5)]) dF dF∧y=y∧i=i∧j=j∧false=false∧t=t∧k=k∧false=false∧3=3∧a=a∧111=111∧b=b∧51=51∧ws=ws∧3=3∧cs=cs∧62=62∧n=n∧n=n∧3=3∧rs=rs∧True))∧((decide (t≥0)==true)=false→QS i false false j cs∧cN∧ak (aD 2 [(2,2),(3,3),(4,4),(5,5)]) dF dF∧y=y∧i=i∧j=j∧false=false∧t=t∧k=k∧false=false∧3=3∧a=a∧111=111∧b=b∧51=51∧ws=ws∧3=3∧cs=cs∧62=62∧n=n∧n=n∧3=3∧rs=rs∧True))∧(((aa (fT os ts rs i) 0==3)==true)=false→QS i false false j cs∧cN∧ak (aD 2 [(2,2),(3,3),(4,4),(5,5)]) dF dF∧y=y∧i=i∧j=j∧false=false∧t=t∧k=k∧false=false∧3=3∧a=a∧111=111∧b=b∧51=51∧ws=ws∧3=3∧cs=cs∧62=62∧n=n∧n=n∧3=3∧rs=rs∧True)))∧(decide (i<(↑k:Int))=false→true=true∧j=kF∧cs=cj∧3=3)):=by kernel_rfl
noncomputable def pq (rs:Array Value) (i:Int):Array Value:=#[Value.int .i64 (aa rs (0+i.toNat*1))]
def xE (rs:Array Value) (i:Int):Prop:=aA .i64 rs (0+i.toNat*1)∧True
def E1 (j:Nat) (cs:Array Value):Prop:=((j+1)*8≤140737488355328∧j+1≤140737488355328)∧j*1=cs.size∧True
noncomputable def qC (i:Int):Int:=ah .add .i64 i 1
theorem jtF (os ts ws a b:Array Value) (n:Nat) (t:Int) (y:Bool) (k:Nat) (rs:Array Value) (i:Int) (o e:Bool) (j:Nat) (cs:Array Value) (QS:Int→Nat→Array Value→Prop):(stepT (lF os ts).go (run (lF os ts) 1000) 2 (EV ws a b n t y k rs i o e j cs) (EW ws a b n t y k rs i o e j cs)).vc (fun _ _=>False) (ER ws a b n t y k rs QS) =
  ((ws.size=448∧True)∧((0≤i∧i<(↑k:Int))∧True)∧(xE rs i)∧(SW ts ws∧ay ts∧True)∧((0≤i∧i<(↑k:Int))∧True)∧(xE rs i)∧(((aO ts (aa rs (0+i.toNat*1))==aa rs (0+i.toNat*1))==true)=true→(((!y)==true)=true→((o==false)=true→((y==true)=true→(e=true→((0≤i∧i<(↑k:Int))∧True)∧(xE rs i)∧(E1 j cs)∧QS (qC i) (j+1) (cs++(pq rs i))∧cN∧ak (aD 2 [(2,2),(3,3),(4,4),(5,7)]) dI dI∧y=y∧ah .add .i64 i 1=ah .add .i64 i 1∧j+1=j+1∧t=t∧k=k∧3=3∧a=a∧111=111∧b=b∧51=51∧ws=ws∧3=3∧cs++(pq rs i)=cs++(pq rs i)∧62=62∧n=n∧n=n∧3=3∧rs=rs∧True)∧(e=false→QS (qC i) j cs∧cN∧ak (aD 2 [(2,2),(3,3),(4,4),(5,5)]) dI dI∧y=y∧ah .add .i64 i 1=ah .add .i64 i 1∧j=j∧t=t∧k=k∧3=3∧a=a∧111=111∧b=b∧51=51∧ws=ws∧3=3∧cs=cs∧62=62∧n=n∧n=n∧3=3∧rs=rs∧True))∧((y==true)=false→QS (qC i) j cs∧cN∧ak (aD 2 [(2,2),(3,3),(4,4),(5,5)]) dI dI∧y=y∧ah .add .i64 i 1=ah .add .i64 i 1∧j=j∧t=t∧k=k∧3=3∧a=a∧111=111∧b=b∧51=51∧ws=ws∧3=3∧cs=cs∧62=62∧n=n∧n=n∧3=3∧rs=rs∧True))∧((o==false)=false→((0≤i∧i<(↑k:Int))∧True)∧(xE rs i)∧(E1 j cs)∧QS (qC i) (j+1) (cs++(pq rs i))∧cN∧ak (aD 2 [(2,2),(3,3),(4,4),(5,7)]) dI dI∧y=y∧ah .add .i64 i 1=ah .add .i64 i 1∧j+1=j+1∧t=t∧k=k∧3=3∧a=a∧111=111∧b=b∧51=51∧ws=ws∧3=3∧cs++(pq rs i)=cs++(pq rs i)∧62=62∧n=n∧n=n∧3=3∧rs=rs∧True))∧(((!y)==true)=false→((y==true)=true→(e=true→((0≤i∧i<(↑k:Int))∧True)∧(xE rs i)∧(E1 j cs)∧QS (qC i) (j+1) (cs++(pq rs i))∧cN∧ak (aD 2 [(2,2),(3,3),(4,4),(5,7)]) dI dI∧y=y∧ah .add .i64 i 1=ah .add .i64 i 1∧j+1=j+1∧t=t∧k=k∧3=3∧a=a∧111=111∧b=b∧51=51∧ws=ws∧3=3∧cs++(pq rs i)=cs++(pq rs i)∧62=62∧n=n∧n=n∧3=3∧rs=rs∧True)∧(e=false→QS (qC i) j cs∧cN∧ak (aD 2 [(2,2),(3,3),(4,4),(5,5)]) dI dI∧y=y∧ah .add .i64 i 1=ah .add .i64 i 1∧j=j∧t=t∧k=k∧3=3∧a=a∧111=111∧b=b∧51=51∧ws=ws∧3=3∧cs=cs∧62=62∧n=n∧n=n∧3=3∧rs=rs∧True))∧((y==true)=false→QS (qC i) j cs∧cN∧ak (aD 2 [(2,2),(3,3),(4,4),(5,5)]) dI dI∧y=y∧ah .add .i64 i 1=ah .add .i64 i 1∧j=j∧t=t∧k=k∧3=3∧a=a∧111=111∧b=b∧51=51∧ws=ws∧3=3∧cs=cs∧62=62∧n=n∧n=n∧3=3∧rs=rs∧True)))∧(((aO ts (aa rs (0+i.toNat*1))==aa rs (0+i.toNat*1))==true)=false→QS (qC i) j cs∧cN∧ak (aD 2 [(2,2),(3,3),(4,4),(5,5)]) dI dI∧y=y∧ah .add .i64 i 1=ah .add .i64 i 1∧j=j∧t=t∧k=k∧3=3∧a=a∧111=111∧b=b∧51=51∧ws=ws∧3=3∧cs=cs∧62=62∧n=n∧n=n∧3=3∧rs=rs∧True)):=by kernel_rfl
theorem tzE (os ts ws:Array Value) (t:Int) (y:Bool):(run (Ni os ts) 1000 2 [a_ 12 Tryz.f12.ntmps (Nk ws t y) (Tryz.f12.body.getD .skip)] mg).vc iZ (fun _ _=>False) =
  ((ws.size=448∧True)∧(SW ts ws∧aM ts∧True)∧(decide ((af ts).length=0)=true→True)∧(decide ((af ts).length=0)=false→(decide ((0:Int)<(↑((af ts).length):Int))=true→False)∧(decide ((0:Int)<(↑((af ts).length):Int))=false→True))):=by kernel_rfl
theorem tz0 (os ts ws:Array Value) (t:Int) (y:Bool) (k:Nat) (rs:Array Value) (Q:Int→Prop):(run (lF os ts) 1000 2 [a_ 12 Tryz.f12.ntmps (Nk ws t y) (Tryz.f12.body.getD .skip)] mg).vc (fun _ _=>False) (ES ws t y k rs Q) =
  ((ws.size=448∧True)∧(SW ts ws∧aM ts∧True)∧(decide ((af ts).length=0)=true→False)∧(decide ((af ts).length=0)=false→Q (0:Int)∧cN∧ak (aD 2 [(2,2),(3,3),(4,4)]) dI dI∧y=y∧(0:Int)=(0:Int)∧Value.slice none 0 0=Value.slice none 0 0∧t=t∧k=(af ts).length∧51=51∧ws=ws∧62=62∧Value.slice none 0 0=Value.slice none 0 0∧Value.slice none 0 0=Value.slice none 0 0∧3=3∧rs=aE (af ts)∧True)):=by kernel_rfl
noncomputable def fU (os:Array Value) (ts:Array Value) (rs:Array Value) (i:Int):Array Value:=fH os ts (aa rs (0+i.toNat*1))
noncomputable def pz (t:Int):Int:=ah .and .i64 t 7
theorem U3 (os ts ws:Array Value) (t:Int) (y:Bool) (k:Nat) (rs:Array Value) (i:Int) (Q:Int→Bool→Bool→Prop):(stepT (lF os ts).go (run (lF os ts) 1000) 2 (AR ws t y k rs i) (AS ws t y k rs i)).vc iZ (KR ws t y k rs Q) =
  ((decide (i<(↑k:Int))=true→(ws.size=448∧True)∧((0≤i∧i<(↑k:Int))∧True)∧(aA .i64 rs (0+i.toNat*1)∧True)∧(SW ts ws∧ay ts∧dP os ts∧True)∧((10:Nat)=10∧(10:Nat)=10∧True)∧(aA .i64 (fU os ts rs i) 0∧True)∧(((aa (fU os ts rs i) 0==1)==true)=true→(aA .i64 (fU os ts rs i) 1∧True)∧(aA .i64 (fU os ts rs i) 0∧True)∧(((aa (fU os ts rs i) 0==3)==true)=true→((decide (t≥0)==true)=true→((decide (t<8)==true)=true→((0≤ah .and .i64 t 7∧ah .and .i64 t 7<8)∧True)∧(bY (fU os ts rs i) (2+(pz t).toNat*1)∧True)∧Q i (aa (fU os ts rs i) 1==t) (bq (fU os ts rs i) (2+(pz t).toNat*1))∧cN∧ak (aD 2 [(2,2),(3,3),(4,4)]) dF dF∧y=y∧i=i∧Value.slice none 0 0=Value.slice none 0 0∧(aa (fU os ts rs i) 1==t)=(aa (fU os ts rs i) 1==t)∧t=t∧k=k∧bq (fU os ts rs i) (2+(pz t).toNat*1)=bq (fU os ts rs i) (2+(pz t).toNat*1)∧51=51∧ws=ws∧62=62∧Value.slice none 0 0=Value.slice none 0 0∧Value.slice none 0 0=Value.slice none 0 0∧3=3∧rs=rs∧True)∧((decide (t<8)==true)=false→Q i (aa (fU os ts rs i) 1==t) false∧cN∧ak (aD 2 [(2,2),(3,3),(4,4)]) dF dF∧y=y∧i=i∧Value.slice none 0 0=Value.slice none 0 0∧(aa (fU os ts rs i) 1==t)=(aa (fU os ts rs i) 1==t)∧t=t∧k=k∧false=false∧51=51∧ws=ws∧62=62∧Value.slice none 0 0=Value.slice none 0 0∧Value.slice none 0 0=Value.slice none 0 0∧3=3∧rs=rs∧True))∧((decide (t≥0)==true)=false→Q i (aa (fU os ts rs i) 1==t) false∧cN∧ak (aD 2 [(2,2),(3,3),(4,4)]) dF dF∧y=y∧i=i∧Value.slice none 0 0=Value.slice none 0 0∧(aa (fU os ts rs i) 1==t)=(aa (fU os ts rs i) 1==t)∧t=t∧k=k∧false=false∧51=51∧ws=ws∧62=62∧Value.slice none 0 0=Value.slice none 0 0∧Value.slice none 0 0=Value.slice none 0 0∧3=3∧rs=rs∧True))∧(((aa (fU os ts rs i) 0==3)==true)=false→Q i (aa (fU os ts rs i) 1==t) false∧cN∧ak (aD 2 [(2,2),(3,3),(4,4)]) dF dF∧y=y∧i=i∧Value.slice none 0 0=Value.slice none 0 0∧(aa (fU os ts rs i) 1==t)=(aa (fU os ts rs i) 1==t)∧t=t∧k=k∧false=false∧51=51∧ws=ws∧62=62∧Value.slice none 0 0=Value.slice none 0 0∧Value.slice none 0 0=Value.slice none 0 0∧3=3∧rs=rs∧True))∧(((aa (fU os ts rs i) 0==1)==true)=false→(aA .i64 (fU os ts rs i) 0∧True)∧(((aa (fU os ts rs i) 0==3)==true)=true→((decide (t≥0)==true)=true→((decide (t<8)==true)=true→((0≤ah .and .i64 t 7∧ah .and .i64 t 7<8)∧True)∧(bY (fU os ts rs i) (2+(pz t).toNat*1)∧True)∧Q i false (bq (fU os ts rs i) (2+(pz t).toNat*1))∧cN∧ak (aD 2 [(2,2),(3,3),(4,4)]) dF dF∧y=y∧i=i∧Value.slice none 0 0=Value.slice none 0 0∧false=false∧t=t∧k=k∧bq (fU os ts rs i) (2+(pz t).toNat*1)=bq (fU os ts rs i) (2+(pz t).toNat*1)∧51=51∧ws=ws∧62=62∧Value.slice none 0 0=Value.slice none 0 0∧Value.slice none 0 0=Value.slice none 0 0∧3=3∧rs=rs∧True)∧((decide (t<8)==true)=false→Q i false false∧cN∧ak (aD 2 [(2,2),(3,3),(4,4)]) dF dF∧y=y∧i=i∧Value.slice none 0 0=Value.slice none 0 0∧false=false∧t=t∧k=k∧false=false∧51=51∧ws=ws∧62=62∧Value.slice none 0 0=Value.slice none 0 0∧Value.slice none 0 0=Value.slice none 0 0∧3=3∧rs=rs∧True))∧((decide (t≥0)==true)=false→Q i false false∧cN∧ak (aD 2 [(2,2),(3,3),(4,4)]) dF dF∧y=y∧i=i∧Value.slice none 0 0=Value.slice none 0 0∧false=false∧t=t∧k=k∧false=false∧51=51∧ws=ws∧62=62∧Value.slice none 0 0=Value.slice none 0 0∧Value.slice none 0 0=Value.slice none 0 0∧3=3∧rs=rs∧True))∧(((aa (fU os ts rs i) 0==3)==true)=false→Q i false false∧cN∧ak (aD 2 [(2,2),(3,3),(4,4)]) dF dF∧y=y∧i=i∧Value.slice none 0 0=Value.slice none 0 0∧false=false∧t=t∧k=k∧false=false∧51=51∧ws=ws∧62=62∧Value.slice none 0 0=Value.slice none 0 0∧Value.slice none 0 0=Value.slice none 0 0∧3=3∧rs=rs∧True)))∧(decide (i<(↑k:Int))=false→True)):=by kernel_rfl
def xF (rs:Array Value) (i:Int):Prop:=aA .i64 rs (0+i.toNat*1)∧True
noncomputable def qD (i:Int):Int:=ah .add .i64 i 1
theorem tz2 (os ts ws:Array Value) (t:Int) (y:Bool) (k:Nat) (rs:Array Value) (i:Int) (o e:Bool) (Q:Int→Prop):(stepT (lF os ts).go (run (lF os ts) 1000) 2 (EX ws t y k rs i o e) (EZ ws t y k rs i o e)).vc (fun _ _=>False) (ES ws t y k rs Q) =
  ((ws.size=448∧True)∧((0≤i∧i<(↑k:Int))∧True)∧(xF rs i)∧(SW ts ws∧ay ts∧True)∧((0≤i∧i<(↑k:Int))∧True)∧(xF rs i)∧(((aO ts (aa rs (0+i.toNat*1))==aa rs (0+i.toNat*1))==true)=true→(((!y)==true)=true→((o==false)=true→((y==true)=true→(e=true→((0≤i∧i<(↑k:Int))∧True)∧(xF rs i)∧Q (qD i)∧False)∧(e=false→Q (qD i)∧cN∧ak (aD 2 [(2,2),(3,3),(4,4)]) dI dI∧y=y∧ah .add .i64 i 1=ah .add .i64 i 1∧Value.slice none 0 0=Value.slice none 0 0∧t=t∧k=k∧51=51∧ws=ws∧62=62∧Value.slice none 0 0=Value.slice none 0 0∧Value.slice none 0 0=Value.slice none 0 0∧3=3∧rs=rs∧True))∧((y==true)=false→Q (qD i)∧cN∧ak (aD 2 [(2,2),(3,3),(4,4)]) dI dI∧y=y∧ah .add .i64 i 1=ah .add .i64 i 1∧Value.slice none 0 0=Value.slice none 0 0∧t=t∧k=k∧51=51∧ws=ws∧62=62∧Value.slice none 0 0=Value.slice none 0 0∧Value.slice none 0 0=Value.slice none 0 0∧3=3∧rs=rs∧True))∧((o==false)=false→((0≤i∧i<(↑k:Int))∧True)∧(xF rs i)∧Q (qD i)∧False))∧(((!y)==true)=false→((y==true)=true→(e=true→((0≤i∧i<(↑k:Int))∧True)∧(xF rs i)∧Q (qD i)∧False)∧(e=false→Q (qD i)∧cN∧ak (aD 2 [(2,2),(3,3),(4,4)]) dI dI∧y=y∧ah .add .i64 i 1=ah .add .i64 i 1∧Value.slice none 0 0=Value.slice none 0 0∧t=t∧k=k∧51=51∧ws=ws∧62=62∧Value.slice none 0 0=Value.slice none 0 0∧Value.slice none 0 0=Value.slice none 0 0∧3=3∧rs=rs∧True))∧((y==true)=false→Q (qD i)∧cN∧ak (aD 2 [(2,2),(3,3),(4,4)]) dI dI∧y=y∧ah .add .i64 i 1=ah .add .i64 i 1∧Value.slice none 0 0=Value.slice none 0 0∧t=t∧k=k∧51=51∧ws=ws∧62=62∧Value.slice none 0 0=Value.slice none 0 0∧Value.slice none 0 0=Value.slice none 0 0∧3=3∧rs=rs∧True)))∧(((aO ts (aa rs (0+i.toNat*1))==aa rs (0+i.toNat*1))==true)=false→Q (qD i)∧cN∧ak (aD 2 [(2,2),(3,3),(4,4)]) dI dI∧y=y∧ah .add .i64 i 1=ah .add .i64 i 1∧Value.slice none 0 0=Value.slice none 0 0∧t=t∧k=k∧51=51∧ws=ws∧62=62∧Value.slice none 0 0=Value.slice none 0 0∧Value.slice none 0 0=Value.slice none 0 0∧3=3∧rs=rs∧True)):=by kernel_rfl
set_option linter.unusedVariables false
theorem Iu (os ts:Array Value):∀ g l m t,AQ os ts g l m=some t→aq E0 g l m t:=by
 intro g l m t h
 unfold AQ at h
 split at h
 ·rename_i e;cases h;exact Ip os ts _ _ _ _ e
 ·exact wH ts _ _ _ _ h
theorem mC (os ts:Array Value):bf (lF os ts):=bf.with aU _ _ (Iu os ts)
theorem R7 (os ts:Array Value):bf (Ni os ts):=bf.with aU _ _ (Iu os ts)
def iW (os ts:Array Value) (t x:Int):Bool:=(aW os ts x==1)&&(bt os ts x==t)
def ji (os ts:Array Value) (t x:Int):Bool:=(aW os ts x==3)&&bJ (aR os ts x) t
def vR (os ts:Array Value) (t:Int) (y:Bool) (x:Int):Bool:=(aO ts x==x)&&(if y=true then ji os ts t x else iW os ts t x)
def cS (os ts:Array Value) (t:Int) (y:Bool) (i:Nat):List Int:=bH (af ts) (vR os ts t y) i
theorem ad9 {t:Int} (t0:0≤t) (t1:t<8):ah .and .i64 t 7=t:=by
 rcases (by omega:t=0∨t=1∨t=2∨t=3∨t=4∨t=5∨t=6∨t=7) with rfl | rfl | rfl | rfl | rfl | rfl | rfl | rfl <;> kernel_rfl
theorem R8 {h t:Int} (c:¬ (0≤t∧t<8)):bJ h t=false:=by
 unfold bJ
 rw [decide_eq_false c]
 rfl
theorem uF (os ts:Array Value) (x:Int):aA .i64 (fH os ts x) 0∧aA .i64 (fH os ts x) 1∧aa (fH os ts x) 0=aW os ts x∧aa (fH os ts x) 1=bt os ts x:=⟨rfl,rfl,rfl,rfl⟩
section
variable {os ts ws a b:Array Value} {n:Nat} {t:Int} {y:Bool} {A:SV→aj→Prop}
theorem WV {k:Nat} {rs:Array Value} {QZ:Int→Prop} {QS:Int→Nat→Array Value→Prop} {fs:List av} {m:aj} (hz:∀ i,QZ i→Good Tryz.prog A 2 (uB ws a b n t y k rs i) (uC ws a b n t y k rs i)) (hs:∀ i j cs,QS i j cs→Good Tryz.prog A 2 (uD ws a b n t y k rs i j cs) (uE ws a b n t y k rs i j cs)) (hb:L9 ws a b n t y k rs QZ QS fs m):Good Tryz.prog A 2 fs m:=by
 unfold L9 at hb
 split at hb
 ·split at hb
  ·exact PA hs hb
  ·exact Is hz hb
 ·exact hb.elim
theorem aa9 {i:Nat} (hi:i<(af ts).length) (w:SW ts ws) (hf:ay ts) (next:Good Tryz.prog A 2 (uD ws a b n t y (af ts).length (aE (af ts)) ((i+1:Nat):Int) (cS os ts t y (i+1)).length (aE (cS os ts t y (i+1)))) (uE ws a b n t y (af ts).length (aE (af ts)) ((i+1:Nat):Int) (cS os ts t y (i+1)).length (aE (cS os ts t y (i+1))))):Good Tryz.prog A 2 (EV ws a b n t y (af ts).length (aE (af ts)) (i:Int) (iW os ts t ((af ts).getD i 0)) (ji os ts t ((af ts).getD i 0)) (cS os ts t y i).length (aE (cS os ts t y i))) (EW ws a b n t y (af ts).length (aE (af ts)) (i:Int) (iW os ts t ((af ts).getD i 0)) (ji os ts t ((af ts).getD i 0)) (cS os ts t y i).length (aE (cS os ts t y i))):=by
 have hlen:=iw ts
 have hz:=w.sz
 have ei:ah .add .i64 (i:Int) 1=((i+1:Nat):Int):=by rw [dn,cC (by omega) (by omega)];omega
 have g1:aA .i64 (aE (af ts)) i:=bw (fj hi)
 have g2:aa (aE (af ts)) i=(af ts).getD i 0:=bI (fj hi)
 have y0:0≤(i:Int):=by omega
 have y1:(i:Int)<((af ts).length:Int):=by omega
 have hl:(cS os ts t y i).length≤i:=Dr i
 have je:((cS os ts t y i).length+1)*8≤140737488355328∧(cS os ts t y i).length+1≤140737488355328:=⟨by omega,by omega⟩
 have eL:cS os ts t y (i+1)=if vR os ts t y ((af ts).getD i 0)=true then cS os ts t y i++[(af ts).getD i 0] else cS os ts t y i:=rM hi
 refine bD (mC os ts) 1000 (jtF os ts ws a b n t y _ _ (i:Int) _ _ _ _ (fun i' j' c'=>i'=((i+1:Nat):Int)∧j'=(cS os ts t y (i+1)).length∧c'=aE (cS os ts t y (i+1)))) ?_ (fun _ _ h=>h.elim) (fun fs m hb=>PA (fun i' j' c' ⟨e1,e2,e3⟩=>by rw [e1,e2,e3];exact next) hb)
 try unfold qC
 unfold E1 xE pq
 rw [eL]
 have eP:vR os ts t y ((af ts).getD i 0)=((aO ts ((af ts).getD i 0)==(af ts).getD i 0)&&(if y=true then ji os ts t ((af ts).getD i 0) else iW os ts t ((af ts).getD i 0))):=rfl
 rw [eP]
 generalize iW os ts t ((af ts).getD i 0)=o
 generalize ji os ts t ((af ts).getD i 0)=e
 generalize (af ts).getD i 0=x at *
 have c6:(true==false)=false:=rfl
 cases c1:(aO ts x==x) <;> cases o <;> cases e <;> cases y
 all_goals
  simp only [ei,g1,g2,y0,y1,hz,w,hf,je,c1,c6,tF,Ie,List.length_append,List.length_cons,List.length_nil,Bool.and_true,Bool.and_false,Bool.true_and,Bool.false_and,if_true,if_false,beq_self_eq_true,decide_true,wv,q7,q8,q6]
theorem R9 {i:Nat} (hi:i<(af ts).length) (w:SW ts ws) (hf:ay ts) (he:cS os ts t y i=[]) (nZ:cS os ts t y (i+1)=[]→Good Tryz.prog A 2 (uB ws a b n t y (af ts).length (aE (af ts)) ((i+1:Nat):Int)) (uC ws a b n t y (af ts).length (aE (af ts)) ((i+1:Nat):Int))) (nS:cS os ts t y (i+1)≠[]→Good Tryz.prog A 2 (uD ws a b n t y (af ts).length (aE (af ts)) ((i+1:Nat):Int) (cS os ts t y (i+1)).length (aE (cS os ts t y (i+1)))) (uE ws a b n t y (af ts).length (aE (af ts)) ((i+1:Nat):Int) (cS os ts t y (i+1)).length (aE (cS os ts t y (i+1))))):Good Tryz.prog A 2 (ET ws a b n t y (af ts).length (aE (af ts)) (i:Int) (iW os ts t ((af ts).getD i 0)) (ji os ts t ((af ts).getD i 0))) (EU ws a b n t y (af ts).length (aE (af ts)) (i:Int) (iW os ts t ((af ts).getD i 0)) (ji os ts t ((af ts).getD i 0))):=by
 have hlen:=iw ts
 have hz:=w.sz
 have ei:ah .add .i64 (i:Int) 1=((i+1:Nat):Int):=by rw [dn,cC (by omega) (by omega)];omega
 have g1:aA .i64 (aE (af ts)) i:=bw (fj hi)
 have g2:aa (aE (af ts)) i=(af ts).getD i 0:=bI (fj hi)
 have y0:0≤(i:Int):=by omega
 have y1:(i:Int)<((af ts).length:Int):=by omega
 have eL:cS os ts t y (i+1)=if vR os ts t y ((af ts).getD i 0)=true then cS os ts t y i++[(af ts).getD i 0] else cS os ts t y i:=rM hi
 refine bD (mC os ts) 1000 (jtD os ts ws a b n t y _ _ (i:Int) _ _ (fun i'=>i'=((i+1:Nat):Int)∧cS os ts t y (i+1)=[]) (fun i' j' c'=>i'=((i+1:Nat):Int)∧j'=(cS os ts t y (i+1)).length∧c'=aE (cS os ts t y (i+1))∧cS os ts t y (i+1)≠[])) ?_ (fun _ _ h=>h.elim) (fun fs m hb=>WV (fun i' ⟨e1,e2⟩=>by rw [e1];exact nZ e2) (fun i' j' c' ⟨e1,e2,e3,e4⟩=>by rw [e1,e2,e3];exact nS e4) hb)
 try unfold qB
 unfold xD o_
 rw [eL,he]
 have eP:vR os ts t y ((af ts).getD i 0)=((aO ts ((af ts).getD i 0)==(af ts).getD i 0)&&(if y=true then ji os ts t ((af ts).getD i 0) else iW os ts t ((af ts).getD i 0))):=rfl
 rw [eP]
 generalize iW os ts t ((af ts).getD i 0)=o
 generalize ji os ts t ((af ts).getD i 0)=e
 generalize (af ts).getD i 0=x at *
 have c6:(true==false)=false:=rfl
 have c7:[x]≠[]:=by simp
 cases c1:(aO ts x==x) <;> cases o <;> cases e <;> cases y
 all_goals
  simp only [ei,g1,g2,y0,y1,hz,w,hf,c1,c6,c7,Ig,List.nil_append,List.length_cons,List.length_nil,ne_eq,not_false_eq_true,Bool.and_true,Bool.and_false,Bool.true_and,Bool.false_and,if_true,if_false,beq_self_eq_true,decide_true,wv,q7,q8,q6]
theorem aa_ {i:Nat} (hi:i<(af ts).length) (w:SW ts ws) (hf:ay ts) (next:Good Tryz.prog A 2 (AR ws t y (af ts).length (aE (af ts)) ((i+1:Nat):Int)) (AS ws t y (af ts).length (aE (af ts)) ((i+1:Nat):Int))):Good Tryz.prog A 2 (EX ws t y (af ts).length (aE (af ts)) (i:Int) false false) (EZ ws t y (af ts).length (aE (af ts)) (i:Int) false false):=by
 have hlen:=iw ts
 have hz:=w.sz
 have ei:ah .add .i64 (i:Int) 1=((i+1:Nat):Int):=by rw [dn,cC (by omega) (by omega)];omega
 have g1:aA .i64 (aE (af ts)) i:=bw (fj hi)
 have y0:0≤(i:Int):=by omega
 have y1:(i:Int)<((af ts).length:Int):=by omega
 refine bD (mC #[] ts) 1000 (tz2 #[] ts ws t y _ _ (i:Int) _ _ (fun i'=>i'=((i+1:Nat):Int))) ?_ (fun _ _ h=>h.elim) (fun fs m hb=>PB (fun i' e1=>by rw [e1];exact next) hb)
 try unfold qD
 unfold xF
 have c6:(true==false)=false:=rfl
 generalize (aO ts (aa (aE (af ts)) (0+(i:Int).toNat*1))==aa (aE (af ts)) (0+(i:Int).toNat*1))=c1
 cases c1 <;> cases y
 all_goals
  simp only [ei,g1,y0,y1,hz,w,hf,c6,beq_self_eq_true,decide_true,wv,q7,q8,q6]
theorem DO (hf:ay ts) {i:Nat} (hi:i<(af ts).length) {Q:Int→Bool→Bool→Prop} (hQ:Q (i:Int) (iW os ts t ((af ts).getD i 0)) (ji os ts t ((af ts).getD i 0))) (x:Int) (ex:x=(af ts).getD i 0) :
  (((aa (fH os ts x) 0==1)==true)=true→(((aa (fH os ts x) 0==3)==true)=true→((decide (t≥0)==true)=true→((decide (t<8)==true)=true→((0≤ah .and .i64 t 7∧ah .and .i64 t 7<8)∧True)∧(bY (fH os ts x) (2+Int.toNat (ah .and .i64 t 7)*1)∧True)∧Q i (aa (fH os ts x) 1==t) (bq (fH os ts x) (2+Int.toNat (ah .and .i64 t 7)*1)))∧((decide (t<8)==true)=false→Q i (aa (fH os ts x) 1==t) false))∧((decide (t≥0)==true)=false→Q i (aa (fH os ts x) 1==t) false))∧(((aa (fH os ts x) 0==3)==true)=false→Q i (aa (fH os ts x) 1==t) false))∧(((aa (fH os ts x) 0==1)==true)=false→(((aa (fH os ts x) 0==3)==true)=true→((decide (t≥0)==true)=true→((decide (t<8)==true)=true→((0≤ah .and .i64 t 7∧ah .and .i64 t 7<8)∧True)∧(bY (fH os ts x) (2+Int.toNat (ah .and .i64 t 7)*1)∧True)∧Q i false (bq (fH os ts x) (2+Int.toNat (ah .and .i64 t 7)*1)))∧((decide (t<8)==true)=false→Q i false false))∧((decide (t≥0)==true)=false→Q i false false))∧(((aa (fH os ts x) 0==3)==true)=false→Q i false false)):=by
 subst ex
 obtain ⟨_,_,f0,f1⟩:=uF os ts ((af ts).getD i 0)
 have eo:iW os ts t ((af ts).getD i 0)=((aW os ts ((af ts).getD i 0)==1)&&(bt os ts ((af ts).getD i 0)==t)):=rfl
 have ee:ji os ts t ((af ts).getD i 0)=((aW os ts ((af ts).getD i 0)==3)&&bJ (aR os ts ((af ts).getD i 0)) t):=rfl
 rw [eo,ee] at hQ
 have fb:0≤t→t<8→bY (fH os ts ((af ts).getD i 0)) (2+t.toNat*1)∧bq (fH os ts ((af ts).getD i 0)) (2+t.toNat*1)=bJ (aR os ts ((af ts).getD i 0)) t:=fun t0 t1=>w4 (aW os ts ((af ts).getD i 0)) (bt os ts ((af ts).getD i 0)) (aR os ts ((af ts).getD i 0)) t0 t1
 rw [f0,f1]
 generalize (af ts).getD i 0=x at *
 generalize aW os ts x=k at *
 generalize bt os ts x=u at *
 generalize aR os ts x=h at *
 by_cases d1:0≤t
 ·have nD:decide (t≥0)=true:=decide_eq_true d1
  by_cases d2:t<8
  ·have Nm:decide (t<8)=true:=decide_eq_true d2
   obtain ⟨b1,b2⟩:=fb d1 d2
   have ea:=ad9 d1 d2
   cases c1:(k==1) <;> cases c2:(k==3) <;> simp only [c1,c2,Bool.true_and,Bool.false_and] at hQ <;> simp only [nD,Nm,b1,b2,ea,d1,d2,hQ,decide_true,dJ,cF,beq_self_eq_true,implies_true,q6]
  ·have Nm:decide (t<8)=false:=decide_eq_false d2
   have ho:=R8 (h:=h) (fun q=>d2 q.2)
   rw [ho] at hQ
   cases c1:(k==1) <;> cases c2:(k==3) <;> simp only [c1,c2,Bool.true_and,Bool.false_and] at hQ <;> simp only [nD,Nm,hQ,dJ,cF,beq_self_eq_true,implies_true,q6]
 ·have nD:decide (t≥0)=false:=decide_eq_false d1
  have ho:=R8 (h:=h) (fun q=>d1 q.1)
  rw [ho] at hQ
  cases c1:(k==1) <;> cases c2:(k==3) <;> simp only [c1,c2,Bool.true_and,Bool.false_and] at hQ <;> simp only [nD,hQ,dJ,cF,beq_self_eq_true,implies_true,q6]
theorem aa' (w:SW ts ws) (hf:ay ts) (hr:bZ os ts a b n n):∀ (r i:Nat),i+r=(af ts).length→Good Tryz.prog (Ab (cS os ts t y (af ts).length).length (aE (cS os ts t y (af ts).length))) 2 (uD ws a b n t y (af ts).length (aE (af ts)) (i:Int) (cS os ts t y i).length (aE (cS os ts t y i))) (uE ws a b n t y (af ts).length (aE (af ts)) (i:Int) (cS os ts t y i).length (aE (cS os ts t y i))):=by
 have hlen:=iw ts
 have hz:=w.sz
 intro r
 induction r with
 | zero =>
  intro i hi
  obtain rfl:i=(af ts).length:=by omega
  refine bD (mC os ts) 1000 (U2 os ts ws a b n t y _ _ _ _ _ (cS os ts t y (af ts).length).length (aE (cS os ts t y (af ts).length)) (fun _ _ _ _ _=>False)) ?_ (fun _ _ h=>h) (fun fs m hb=>PC (fun _ _ _ _ _ h=>h.elim) hb)
  unfold pg fT
  have d:decide (((af ts).length:Int)<((af ts).length:Int))=false:=decide_eq_false (by omega)
  simp only [d,q6]
 | succ r ih =>
  intro i hi
  have hi':i<(af ts).length:=by omega
  refine bD (mC os ts) 1000 (U2 os ts ws a b n t y _ _ (i:Int) _ _ (cS os ts t y (af ts).length).length (aE (cS os ts t y (af ts).length)) (fun i' o' e' j' c'=>i'=(i:Int)∧o'=iW os ts t ((af ts).getD i 0)∧e'=ji os ts t ((af ts).getD i 0)∧j'=(cS os ts t y i).length∧c'=aE (cS os ts t y i))) ?_ (fun _ _ h=>h) (fun fs m hb=>PC (fun i' o' e' j' c' ⟨e1,e2,e3,e4,e5⟩=>by rw [e1,e2,e3,e4,e5];exact aa9 hi' w hf (ih (i+1) (by omega))) hb)
  unfold pg fT
  have d:decide ((i:Int)<((af ts).length:Int))=true:=decide_eq_true (by omega)
  have g1:aA .i64 (aE (af ts)) i:=bw (fj hi')
  have g2:aa (aE (af ts)) i=(af ts).getD i 0:=bI (fj hi')
  have y0:0≤(i:Int):=by omega
  have y1:(i:Int)<((af ts).length:Int):=by omega
  have hm:=DO (t:=t) (os:=os) hf hi' (Q:=fun i' o' e'=>i'=(i:Int)∧o'=iW os ts t ((af ts).getD i 0)∧e'=ji os ts t ((af ts).getD i 0)) ⟨rfl,rfl,rfl⟩ _ rfl
  obtain ⟨f0,f1,_,_⟩:=uF os ts ((af ts).getD i 0)
  simp only [d,g1,g2,y0,y1,hz,w,hf,hr,f0,f1,decide_true,CH,q7,q6] at hm ⊢
  exact hm
theorem acM (w:SW ts ws) (hf:ay ts) (hr:bZ os ts a b n n) (hne:cS os ts t y (af ts).length≠[]):∀ (r i:Nat),i+r=(af ts).length→cS os ts t y i=[]→Good Tryz.prog (Ab (cS os ts t y (af ts).length).length (aE (cS os ts t y (af ts).length))) 2 (uB ws a b n t y (af ts).length (aE (af ts)) (i:Int)) (uC ws a b n t y (af ts).length (aE (af ts)) (i:Int)):=by
 have hlen:=iw ts
 have hz:=w.sz
 intro r
 induction r with
 | zero =>
  intro i hi he
  obtain rfl:i=(af ts).length:=by omega
  exact absurd he hne
 | succ r ih =>
  intro i hi he
  have hi':i<(af ts).length:=by omega
  refine bD (mC os ts) 1000 (Nl os ts ws a b n t y _ _ (i:Int) False (fun i' o' e'=>i'=(i:Int)∧o'=iW os ts t ((af ts).getD i 0)∧e'=ji os ts t ((af ts).getD i 0))) ?_ (fun s _ h=>?_) (fun fs m hb=>It (fun i' o' e' ⟨e1,e2,e3⟩=>by rw [e1,e2,e3];exact R9 hi' w hf he (ih (i+1) (by omega)) (fun _=>aa' w hf hr r (i+1) (by omega))) hb)
  unfold nU fP
  ·have d:decide ((i:Int)<((af ts).length:Int))=true:=decide_eq_true (by omega)
   have g1:aA .i64 (aE (af ts)) i:=bw (fj hi')
   have g2:aa (aE (af ts)) i=(af ts).getD i 0:=bI (fj hi')
   have y0:0≤(i:Int):=by omega
   have y1:(i:Int)<((af ts).length:Int):=by omega
   have hm:=DO (t:=t) (os:=os) hf hi' (Q:=fun i' o' e'=>i'=(i:Int)∧o'=iW os ts t ((af ts).getD i 0)∧e'=ji os ts t ((af ts).getD i 0)) ⟨rfl,rfl,rfl⟩ _ rfl
   obtain ⟨f0,f1,_,_⟩:=uF os ts ((af ts).getD i 0)
   simp only [d,g1,g2,y0,y1,hz,w,hf,hr,f0,f1,decide_true,CH,q7,q6] at hm ⊢
   exact hm
  ·unfold TU at h
   split at h
   ·exact h.elim
   ·exact h.elim
theorem aba (w:SW ts ws) (hf:ay ts) (hr:bZ os ts a b n n) (hne:cS os ts t y (af ts).length=[]):∀ (r i:Nat),i+r=(af ts).length→Good Tryz.prog iZ 2 (uB ws a b n t y (af ts).length (aE (af ts)) (i:Int)) (uC ws a b n t y (af ts).length (aE (af ts)) (i:Int)):=by
 have hlen:=iw ts
 have hz:=w.sz
 intro r
 induction r with
 | zero =>
  intro i hi
  obtain rfl:i=(af ts).length:=by omega
  refine bD (mC os ts) 1000 (Nl os ts ws a b n t y _ _ _ True (fun _ _ _=>False)) ?_ (fun _ _ h=>h) (fun fs m hb=>It (fun _ _ _ h=>h.elim) hb)
  unfold nU fP
  have d:decide (((af ts).length:Int)<((af ts).length:Int))=false:=decide_eq_false (by omega)
  simp only [d,q6]
 | succ r ih =>
  intro i hi
  have hi':i<(af ts).length:=by omega
  have he:cS os ts t y i=[]:=C3 (by omega) hne
  have Cj:cS os ts t y (i+1)=[]:=C3 (by omega) hne
  refine bD (mC os ts) 1000 (Nl os ts ws a b n t y _ _ (i:Int) True (fun i' o' e'=>i'=(i:Int)∧o'=iW os ts t ((af ts).getD i 0)∧e'=ji os ts t ((af ts).getD i 0))) ?_ (fun s _ h=>h) (fun fs m hb=>It (fun i' o' e' ⟨e1,e2,e3⟩=>by rw [e1,e2,e3];exact R9 hi' w hf he (fun _=>ih (i+1) (by omega)) (fun q=>absurd Cj q)) hb)
  unfold nU fP
  have d:decide ((i:Int)<((af ts).length:Int))=true:=decide_eq_true (by omega)
  have g1:aA .i64 (aE (af ts)) i:=bw (fj hi')
  have g2:aa (aE (af ts)) i=(af ts).getD i 0:=bI (fj hi')
  have y0:0≤(i:Int):=by omega
  have y1:(i:Int)<((af ts).length:Int):=by omega
  have hm:=DO (t:=t) (os:=os) hf hi' (Q:=fun i' o' e'=>i'=(i:Int)∧o'=iW os ts t ((af ts).getD i 0)∧e'=ji os ts t ((af ts).getD i 0)) ⟨rfl,rfl,rfl⟩ _ rfl
  obtain ⟨f0,f1,_,_⟩:=uF os ts ((af ts).getD i 0)
  simp only [d,g1,g2,y0,y1,hz,w,hf,hr,f0,f1,decide_true,CH,q7,q6] at hm ⊢
  exact hm
theorem Ta (hf:ay ts) (hn:dP os ts) (x:Int):iW os ts t x=false∧ji os ts t x=false:=by
 have k:=(JG hf hn x).1
 unfold iW ji
 rw [k]
 exact ⟨rfl,rfl⟩
theorem QJ (hf:ay ts) (hn:dP os ts) (i:Nat):cS os ts t y i=[]:=by
 unfold cS bH
 refine List.filter_eq_nil_iff.2 fun x _=>?_
 obtain ⟨h1,h2⟩:=Ta (t:=t) hf hn x
 unfold vR
 rw [h1,h2]
 cases y <;> simp
theorem abb (w:SW ts ws) (hf:ay ts) (hn:dP os ts):∀ (r i:Nat),i+r=(af ts).length→Good Tryz.prog iZ 2 (AR ws t y (af ts).length (aE (af ts)) (i:Int)) (AS ws t y (af ts).length (aE (af ts)) (i:Int)):=by
 have hlen:=iw ts
 have hz:=w.sz
 intro r
 induction r with
 | zero =>
  intro i hi
  obtain rfl:i=(af ts).length:=by omega
  refine bD (mC os ts) 1000 (U3 os ts ws t y _ _ _ (fun _ _ _=>False)) ?_ (fun _ _ h=>h) (fun fs m hb=>PD (fun _ _ _ h=>h.elim) hb)
  unfold pz fU
  have d:decide (((af ts).length:Int)<((af ts).length:Int))=false:=decide_eq_false (by omega)
  simp only [d,q6]
 | succ r ih =>
  intro i hi
  have hi':i<(af ts).length:=by omega
  obtain ⟨n1,n2⟩:=Ta (t:=t) hf hn ((af ts).getD i 0)
  refine bD (mC os ts) 1000 (U3 os ts ws t y _ _ (i:Int) (fun i' o' e'=>i'=(i:Int)∧o'=iW os ts t ((af ts).getD i 0)∧e'=ji os ts t ((af ts).getD i 0))) ?_ (fun s _ h=>h) (fun fs m hb=>PD (fun i' o' e' ⟨e1,e2,e3⟩=>by rw [e1,e2,e3,n1,n2];exact aa_ hi' w hf (ih (i+1) (by omega))) hb)
  unfold pz fU
  have d:decide ((i:Int)<((af ts).length:Int))=true:=decide_eq_true (by omega)
  have g1:aA .i64 (aE (af ts)) i:=bw (fj hi')
  have g2:aa (aE (af ts)) i=(af ts).getD i 0:=bI (fj hi')
  have y0:0≤(i:Int):=by omega
  have y1:(i:Int)<((af ts).length:Int):=by omega
  have hm:=DO (t:=t) (os:=os) hf hi' (Q:=fun i' o' e'=>i'=(i:Int)∧o'=iW os ts t ((af ts).getD i 0)∧e'=ji os ts t ((af ts).getD i 0)) ⟨rfl,rfl,rfl⟩ _ rfl
  obtain ⟨f0,f1,_,_⟩:=uF os ts ((af ts).getD i 0)
  simp only [d,g1,g2,y0,y1,hz,w,hf,hn,f0,f1,decide_true,CH,q7,q6] at hm ⊢
  exact hm
end
set_option linter.unusedVariables false
theorem Jd:E0.fn 12=some Tryz.f12:=by kernel_rfl
theorem HP:Tryz.f12.body=some (Tryz.f12.body.getD .skip):=by kernel_rfl
section
variable {os ts ws a b:Array Value} {t:Int} {y:Bool}
theorem OF {m:aj} {i j:Nat} {n k':SN} {c1 c2:SK} {w1 w2:Bool} (dZ:aH m.bl i=some ⟨.pop a,3,w1⟩) (e_:aH m.bl j=some ⟨.pop b,111,w2⟩) :
  aq E0 12 [.s (.agg (.ls [.f (.slice i (.l 0) n c1),.f (.slice j (.l 0) k' c2)])),bg ws,i64 (.o t),sB (.o y)] m (.need [SW ts ws,ay ts,bZ os ts a b n.den k'.den] (mP (cS os ts t y (af ts).length) m)):=by
 refine aq.asked fun hq=>?_
 have w:SW ts ws:=hq _ (by simp)
 have hf:ay ts:=hq _ (by simp)
 have hr:bZ os ts a b n.den k'.den:=hq _ (by simp)
 have hb:=hf.ok
 have hz:=w.sz
 obtain ⟨l,el,e1,e2,e3⟩:=hr.l
 have ek:k'.den=n.den:=e2.trans e1.symm
 have hn:bZ os ts a b n.den n.den:=by rw [ek] at hr;exact hr
 have hl:∀ R vs,aK (SV.ok R) [.s (.agg (.ls [.f (.slice i (.l 0) n c1),.f (.slice j (.l 0) k' c2)])),bg ws,i64 (.o t),sB (.o y)] vs→aK (SV.ok (pull (fun q=>if q=0 then i else j) (fM a b).next R)) (Nj n.den ws t y) vs:=by
  intro R vs ha
  match vs,ha with
  | [u,v,x,z],ha=>exact ⟨o9 rfl ek rfl ha.1,ha.2.1,ha.2.2.1,ha.2.2.2.1,trivial⟩
 refine aq.two (fun nw=>?_) (fun nw=>?_)
 ·have he:cS os ts t y (af ts).length=[]:=List.eq_nil_of_length_eq_zero (of_decide_eq_true nw)
  refine aq.mI (q:=[]) aU Jd HP rfl (fun q=>if q=0 then i else j) (m4 dZ e_) hl (A:=iZ) (fun _=>?_) ?_
  ·cases c:decide ((af ts).length=0) with
   | true =>
    refine bA (R7 os ts) 1000 (jtA os ts ws a b n.den t y) ?_ (fun s m h=>h) fun fs m hb=>hb.elim
    simp only [c,hz,w,hb,q6]
   | false =>
    refine bA (mC os ts) 1000 (U1 os ts ws a b n.den t y (af ts).length (aE (af ts)) (fun i=>i=((0:Nat):Int))) ?_ (fun s m h=>h.elim) fun fs m hb=>Is (fun i e=>by rw [e];exact aba w hf hn he _ 0 (Nat.zero_add _)) hb
    simp only [c,hz,w,hb,wv,q6]
    rfl
  ·intro s m' R R' v hs hv
   unfold iZ at hs
   split at hs
   ·exact hv
   ·exact hs.elim
 ·have he:cS os ts t y (af ts).length≠[]:=fun e=>by
   have:=of_decide_eq_false nw
   rw [e] at this
   exact this rfl
  have oh:(af ts).length≠0:=fun e=>by
   have e0:=List.eq_nil_of_length_eq_zero e
   apply he
   unfold cS bH
   rw [e0]
   rfl
  have c:decide ((af ts).length=0)=false:=decide_eq_false oh
  refine aq.KS (q:=[]) aU Jd HP rfl (fun q=>if q=0 then i else j) (m4 dZ e_) hl rfl fun _=>(bA (mC os ts) 1000 (U1 os ts ws a b n.den t y (af ts).length (aE (af ts)) (fun i=>i=((0:Nat):Int))) ?_ (fun s m h=>h.elim) fun fs m hb=>Is (A:=Ab (cS os ts t y (af ts).length).length (aE (cS os ts t y (af ts).length))) (fun i e=>by rw [e];exact acM w hf hn he _ 0 (Nat.zero_add _) rfl) hb).mono ?_
  ·simp only [c,hz,w,hb,wv,q6]
   rfl
  ·intro s m' hs
   unfold Ab at hs
   split at hs
   ·rename_i id nn
    split at hs
    ·rename_i ds ty hb
     obtain ⟨h1,rfl,rfl,rfl⟩:=hs
     exact ⟨id,Nat.le_of_ble_eq_true h1,rfl,hb⟩
    ·exact hs.elim
   ·exact hs.elim
theorem WW (m:aj):aq E0 12 [ff,bg ws,i64 (.o t),sB (.o y)] m (bu [SW ts ws,ay ts,dP os ts] (.ret (.s (.c (.f (.lit (.slice none 0 0))))) m)):=by
 refine aq.asked fun hq=>?_
 have w:SW ts ws:=hq _ (by simp)
 have hf:ay ts:=hq _ (by simp)
 have hn:dP os ts:=hq _ (by simp)
 have hb:=hf.ok
 have hz:=w.sz
 refine (show aq E0 12 _ m (bu [] _) from aq.mI (q:=[]) aU Jd HP rfl (fun q=>q) (ms:=mg) (fun i b hb=>?_) (l':=Nk ws t y) (fun R vs ha=>?_) (A:=iZ) (fun _=>?_) ?_)
 ·have hb:(Tr.nil:Tr bN).get i=some b:=hb
  rw [Tr.get_nil] at hb
  cases hb
 ·exact mw rfl ha
 ·cases c:decide ((af ts).length=0) with
  | true =>
   refine bA (R7 os ts) 1000 (tzE os ts ws t y) ?_ (fun s m h=>h) fun fs m hb=>hb.elim
   simp only [c,hz,w,hb,q6]
  | false =>
   refine bA (mC os ts) 1000 (tz0 os ts ws t y (af ts).length (aE (af ts)) (fun i=>i=((0:Nat):Int))) ?_ (fun s m h=>h.elim) fun fs m hb=>PB (fun i e=>by rw [e];exact abb w hf hn _ 0 (Nat.zero_add _)) hb
   simp only [c,hz,w,hb,wv,q6]
   rfl
 ·intro s m' R R' v hs hv
  unfold iZ at hs
  split at hs
  ·exact hv
  ·exact hs.elim
end
set_option linter.unusedVariables false
noncomputable def E2 (os ts:Array Value) (g:FuncId) (l:List SV) (m:aj):Option Tree:=match AQ os ts g l m with | some t=>some t | none=>uG g l m
noncomputable def ou (os ts:Array Value):Env:=⟨Tryz.prog,dg,E2 os ts,dy [7*1000+3,7*1000+8]⟩
noncomputable def Nn (os ts:Array Value):Env:=⟨Tryz.prog,dg,E2 os ts,dy [7*1000+5]⟩
def pA (s:SV) (_:aj):Prop:=match s with | .s (.c (.f (.bool b)))=>b.den=true | _=>False
def kM (H:Int):Nat→Int
 | 0=>0
 | k+1=>if bJ H (k:Int)=true then ah .or .u8 (kM H k) (ah .shl .u8 1 (k:Int)) else kM H k
noncomputable def nN:List bh:=cY Tryz.f7 3
noncomputable def xG (os:Array Value) (ts:Array Value) (ws:Array Value) (a:Array Value) (b:Array Value) (n:Nat) (l:Nat) (rs:Array Value) (i:Int):List av:=[dw 7 Tryz.f7 [(4,ptr 2 (.l 0)),(5,ptr 3 (.l 0)),(6,ptr 4 (.l 0)),(7,ptr 5 (.l 0)),(9,fK 6 l),(10,i64 (.o i))] nN]
noncomputable def xH (os:Array Value) (ts:Array Value) (ws:Array Value) (a:Array Value) (b:Array Value) (n:Nat) (l:Nat) (rs:Array Value) (i:Int):aj:=cD 7 [(0,⟨.pop a,3,false⟩),(1,⟨.pop b,111,false⟩),(2,⟨.op ts,39,true⟩),(3,⟨.op ws,51,true⟩),(4,⟨.op os,58,true⟩),(5,⟨.ls [.f (.slice 0 (.l 0) (.o n) .any),.f (.slice 1 (.l 0) (.o n) .any)],62,true⟩),(6,⟨.pop rs,3,true⟩)]
def E3 (os:Array Value) (ts:Array Value) (ws:Array Value) (a:Array Value) (b:Array Value) (n:Nat) (l:Nat) (rs:Array Value) (Q:Int→Prop) (fs:List av) (m:aj):Prop:=(match b9 fs 0 with | some f0=>(match dh f0 10 with | some i=>(match aV f0 4 with | some p2=>(match aV f0 5 with | some p3=>(match aV f0 6 with | some p4=>(match aV f0 7 with | some p5=>(match fG f0 9 with | some p6=>Q i∧cV 2 [(2,p2),(3,p3),(4,p4),(5,p5),(6,p6)] (xG os ts ws a b n l rs i) (xH os ts ws a b n l rs i) fs m | none=>False) | none=>False) | none=>False) | none=>False) | none=>False) | none=>False) | none=>False)
noncomputable def kX:List bh:=cY Tryz.f7 8
noncomputable def AT (os:Array Value) (ts:Array Value) (ws:Array Value) (a:Array Value) (b:Array Value) (n:Nat) (l:Nat) (rs:Array Value) (i:Int) (kd:Int) (tk:Int) (hd:Int) (xx:Array Value) (hh:Int) (k:Int):List av:=[dw 7 Tryz.f7 [(4,ptr 2 (.l 0)),(5,ptr 3 (.l 0)),(6,ptr 4 (.l 0)),(7,ptr 5 (.l 0)),(9,fK 6 l),(10,i64 (.o i)),(11,ptr 7 (.l 0)),(12,ptr 8 (.l 0)),(13,.s (.c (.f (.int .u8 (.o hh))))),(14,i64 (.o k))] kX]
noncomputable def AU (os:Array Value) (ts:Array Value) (ws:Array Value) (a:Array Value) (b:Array Value) (n:Nat) (l:Nat) (rs:Array Value) (i:Int) (kd:Int) (tk:Int) (hd:Int) (xx:Array Value) (hh:Int) (k:Int):aj:=cD 9 [(0,⟨.pop a,3,false⟩),(1,⟨.pop b,111,false⟩),(2,⟨.op ts,39,true⟩),(3,⟨.op ws,51,true⟩),(4,⟨.op os,58,true⟩),(5,⟨.ls [.f (.slice 0 (.l 0) (.o n) .any),.f (.slice 1 (.l 0) (.o n) .any)],62,true⟩),(6,⟨.pop rs,3,true⟩),(7,⟨.ls [.f (.int .u8 (.o kd)),.f (.int .u8 (.o tk)),.f (.int .u8 (.o hd))],53,true⟩),(8,⟨.op xx,111,true⟩)]
def E4 (os:Array Value) (ts:Array Value) (ws:Array Value) (a:Array Value) (b:Array Value) (n:Nat) (l:Nat) (rs:Array Value) (i:Int) (kd:Int) (tk:Int) (hd:Int) (xx:Array Value) (Q:Int→Int→Prop) (fs:List av) (m:aj):Prop:=(match b9 fs 0 with | some f0=>(match dh f0 13 with | some hh=>(match dh f0 14 with | some k=>(match aV f0 4 with | some p2=>(match aV f0 5 with | some p3=>(match aV f0 6 with | some p4=>(match aV f0 7 with | some p5=>(match fG f0 9 with | some p6=>(match aV f0 11 with | some p7=>(match aV f0 12 with | some p8=>Q hh k∧cV 2 [(2,p2),(3,p3),(4,p4),(5,p5),(6,p6),(7,p7),(8,p8)] (AT os ts ws a b n l rs i kd tk hd xx hh k) (AU os ts ws a b n l rs i kd tk hd xx hh k) fs m | none=>False) | none=>False) | none=>False) | none=>False) | none=>False) | none=>False) | none=>False) | none=>False) | none=>False) | none=>False)
noncomputable def JM:List bh:=cY Tryz.f7 3
noncomputable def xI (os:Array Value) (ts:Array Value) (ws:Array Value) (l:Nat) (rs:Array Value) (i:Int):List av:=[dw 7 Tryz.f7 [(4,ptr 2 (.l 0)),(5,ptr 3 (.l 0)),(6,ptr 4 (.l 0)),(7,ptr 5 (.l 0)),(9,fK 6 l),(10,i64 (.o i))] JM]
noncomputable def xJ (os:Array Value) (ts:Array Value) (ws:Array Value) (l:Nat) (rs:Array Value) (i:Int):aj:=cD 7 [(2,⟨.op ts,39,true⟩),(3,⟨.op ws,51,true⟩),(4,⟨.op os,58,true⟩),(5,⟨.ls [.f (.lit (.slice none 0 0)),.f (.lit (.slice none 0 0))],62,true⟩),(6,⟨.pop rs,3,true⟩)]
def E5 (os:Array Value) (ts:Array Value) (ws:Array Value) (l:Nat) (rs:Array Value) (Q:Int→Prop) (fs:List av) (m:aj):Prop:=(match b9 fs 0 with | some f0=>(match dh f0 10 with | some i=>(match aV f0 4 with | some p2=>(match aV f0 5 with | some p3=>(match aV f0 6 with | some p4=>(match aV f0 7 with | some p5=>(match fG f0 9 with | some p6=>Q i∧cV 2 [(2,p2),(3,p3),(4,p4),(5,p5),(6,p6)] (xI os ts ws l rs i) (xJ os ts ws l rs i) fs m | none=>False) | none=>False) | none=>False) | none=>False) | none=>False) | none=>False) | none=>False)
noncomputable def JN:List bh:=cY Tryz.f7 8
noncomputable def AV (os:Array Value) (ts:Array Value) (ws:Array Value) (l:Nat) (rs:Array Value) (i:Int) (kd:Int) (tk:Int) (hd:Int) (xx:Array Value) (hh:Int) (k:Int):List av:=[dw 7 Tryz.f7 [(4,ptr 2 (.l 0)),(5,ptr 3 (.l 0)),(6,ptr 4 (.l 0)),(7,ptr 5 (.l 0)),(9,fK 6 l),(10,i64 (.o i)),(11,ptr 7 (.l 0)),(12,ptr 8 (.l 0)),(13,.s (.c (.f (.int .u8 (.o hh))))),(14,i64 (.o k))] JN]
noncomputable def AW (os:Array Value) (ts:Array Value) (ws:Array Value) (l:Nat) (rs:Array Value) (i:Int) (kd:Int) (tk:Int) (hd:Int) (xx:Array Value) (hh:Int) (k:Int):aj:=cD 9 [(2,⟨.op ts,39,true⟩),(3,⟨.op ws,51,true⟩),(4,⟨.op os,58,true⟩),(5,⟨.ls [.f (.lit (.slice none 0 0)),.f (.lit (.slice none 0 0))],62,true⟩),(6,⟨.pop rs,3,true⟩),(7,⟨.ls [.f (.int .u8 (.o kd)),.f (.int .u8 (.o tk)),.f (.int .u8 (.o hd))],53,true⟩),(8,⟨.op xx,111,true⟩)]
def E6 (os:Array Value) (ts:Array Value) (ws:Array Value) (l:Nat) (rs:Array Value) (i:Int) (kd:Int) (tk:Int) (hd:Int) (xx:Array Value) (Q:Int→Int→Prop) (fs:List av) (m:aj):Prop:=(match b9 fs 0 with | some f0=>(match dh f0 13 with | some hh=>(match dh f0 14 with | some k=>(match aV f0 4 with | some p2=>(match aV f0 5 with | some p3=>(match aV f0 6 with | some p4=>(match aV f0 7 with | some p5=>(match fG f0 9 with | some p6=>(match aV f0 11 with | some p7=>(match aV f0 12 with | some p8=>Q hh k∧cV 2 [(2,p2),(3,p3),(4,p4),(5,p5),(6,p6),(7,p7),(8,p8)] (AV os ts ws l rs i kd tk hd xx hh k) (AW os ts ws l rs i kd tk hd xx hh k) fs m | none=>False) | none=>False) | none=>False) | none=>False) | none=>False) | none=>False) | none=>False) | none=>False) | none=>False) | none=>False)
def Np (os ts ws a b:Array Value) (n l:Nat) (rs:Array Value) (i kd tk hd:Int) (xx:Array Value) (Q1:Int→Prop) (Q2:Int→Int→Prop) (fs:List av) (m:aj):Prop:=match Nat.beq (atR fs) (7*1000+3) with | true=>E3 os ts ws a b n l rs Q1 fs m | false=>E4 os ts ws a b n l rs i kd tk hd xx Q2 fs m
def Nq (os ts ws:Array Value) (l:Nat) (rs:Array Value) (i kd tk hd:Int) (xx:Array Value) (Q1:Int→Prop) (Q2:Int→Int→Prop) (fs:List av) (m:aj):Prop:=match Nat.beq (atR fs) (7*1000+3) with | true=>E5 os ts ws l rs Q1 fs m | false=>E6 os ts ws l rs i kd tk hd xx Q2 fs m
noncomputable def Nr (ts ws os:Array Value) (n:Nat):List SV:=[bB ts,bg ws,cJ os,vS n]
noncomputable def Ns (ts ws os:Array Value):List SV:=[bB ts,bg ws,cJ os,ff]
theorem CI (r:Nat→Option Nat):ak r nN nN:=ak.it (by kernel_rfl)
theorem CJ (r:Nat→Option Nat):ak r kX kX:=ak.it (by kernel_rfl)
theorem aeX (r:Nat→Option Nat):ak r JM JM:=ak.it (by kernel_rfl)
theorem aeY (r:Nat→Option Nat):ak r JN JN:=ak.it (by kernel_rfl)
theorem PE {A:SV→aj→Prop} {os:Array Value} {ts:Array Value} {ws:Array Value} {a:Array Value} {b:Array Value} {n:Nat} {l:Nat} {rs:Array Value} {Q:Int→Prop} {fs:List av} {m:aj} (H:∀ i,Q i→Good Tryz.prog A 2 (xG os ts ws a b n l rs i) (xH os ts ws a b n l rs i)) (hb:E3 os ts ws a b n l rs Q fs m):Good Tryz.prog A 2 fs m:=by
 unfold E3 at hb
 iterate 7 (split at hb;rotate_left;exact hb.elim)
 exact Good.c_ hb.2 (H _ hb.1)
theorem Iv {A:SV→aj→Prop} {os:Array Value} {ts:Array Value} {ws:Array Value} {a:Array Value} {b:Array Value} {n:Nat} {l:Nat} {rs:Array Value} {i:Int} {kd:Int} {tk:Int} {hd:Int} {xx:Array Value} {Q:Int→Int→Prop} {fs:List av} {m:aj} (H:∀ hh k,Q hh k→Good Tryz.prog A 2 (AT os ts ws a b n l rs i kd tk hd xx hh k) (AU os ts ws a b n l rs i kd tk hd xx hh k)) (hb:E4 os ts ws a b n l rs i kd tk hd xx Q fs m):Good Tryz.prog A 2 fs m:=by
 unfold E4 at hb
 iterate 10 (split at hb;rotate_left;exact hb.elim)
 exact Good.c_ hb.2 (H _ _ hb.1)
theorem PF {A:SV→aj→Prop} {os:Array Value} {ts:Array Value} {ws:Array Value} {l:Nat} {rs:Array Value} {Q:Int→Prop} {fs:List av} {m:aj} (H:∀ i,Q i→Good Tryz.prog A 2 (xI os ts ws l rs i) (xJ os ts ws l rs i)) (hb:E5 os ts ws l rs Q fs m):Good Tryz.prog A 2 fs m:=by
 unfold E5 at hb
 iterate 7 (split at hb;rotate_left;exact hb.elim)
 exact Good.c_ hb.2 (H _ hb.1)
theorem Iw {A:SV→aj→Prop} {os:Array Value} {ts:Array Value} {ws:Array Value} {l:Nat} {rs:Array Value} {i:Int} {kd:Int} {tk:Int} {hd:Int} {xx:Array Value} {Q:Int→Int→Prop} {fs:List av} {m:aj} (H:∀ hh k,Q hh k→Good Tryz.prog A 2 (AV os ts ws l rs i kd tk hd xx hh k) (AW os ts ws l rs i kd tk hd xx hh k)) (hb:E6 os ts ws l rs i kd tk hd xx Q fs m):Good Tryz.prog A 2 fs m:=by
 unfold E6 at hb
 iterate 10 (split at hb;rotate_left;exact hb.elim)
 exact Good.c_ hb.2 (H _ _ hb.1)
set_option maxRecDepth 100000
theorem jvA (os ts ws a b:Array Value) (n:Nat):(run (Nn os ts) 1000 2 [a_ 7 Tryz.f7.ntmps (Nr ts ws os n) (Tryz.f7.body.getD .skip)] (fM a b)).vc pA (fun _ _=>False) =
  ((ws.size=448∧True)∧(SW ts ws∧aM ts∧True)∧(decide ((af ts).length=0)=true→true=true)∧(decide ((af ts).length=0)=false→(decide ((0:Int)<(↑((af ts).length):Int))=true→False)∧(decide ((0:Int)<(↑((af ts).length):Int))=false→true=true))):=by kernel_rfl
theorem jvB (os ts ws a b:Array Value) (n l:Nat) (rs:Array Value) (Q:Int→Prop):(run (ou os ts) 1000 2 [a_ 7 Tryz.f7.ntmps (Nr ts ws os n) (Tryz.f7.body.getD .skip)] (fM a b)).vc (fun _ _=>False) (E3 os ts ws a b n l rs Q) =
  ((ws.size=448∧True)∧(SW ts ws∧aM ts∧True)∧(decide ((af ts).length=0)=true→False)∧(decide ((af ts).length=0)=false→Q (0:Int)∧cN∧ak (aD 2 [(2,2),(3,3),(4,4),(5,5),(6,6)]) nN nN∧l=(af ts).length∧(0:Int)=(0:Int)∧3=3∧a=a∧111=111∧b=b∧51=51∧ws=ws∧62=62∧n=n∧n=n∧39=39∧ts=ts∧58=58∧os=os∧3=3∧rs=aE (af ts)∧True)):=by kernel_rfl
theorem U4 (os ts ws a b:Array Value) (n l:Nat) (rs:Array Value) (i kd tk hd:Int) (xx:Array Value) (Q:Int→Int→Prop):(stepT (ou os ts).go (run (ou os ts) 1000) 2 (xG os ts ws a b n l rs i) (xH os ts ws a b n l rs i)).vc pA (E4 os ts ws a b n l rs i kd tk hd xx Q) =
  ((decide (i<(↑l:Int))=true→(os.size=128∧True)∧(ts.size=448∧True)∧((0≤i∧i<(↑l:Int))∧True)∧(aA .i64 rs (0+i.toNat*1)∧True)∧(aS os∧ay ts∧(0≤IntKind.wrap .u32 (aa rs (0+i.toNat*1))∧IntKind.wrap .u32 (aa rs (0+i.toNat*1))<4294967296)∧True)∧(ws.size=448∧True)∧((0≤i∧i<(↑l:Int))∧True)∧(aA .i64 rs (0+i.toNat*1)∧True)∧(SW ts ws∧ay ts∧bZ os ts a b n n∧True)∧((10:Nat)=10∧(10:Nat)=10∧True)∧Q (0:Int) (0:Int)∧cN∧ak (aD 2 [(2,2),(3,3),(4,4),(5,5),(6,6),(7,7),(8,8)]) kX kX∧l=l∧(0:Int)=(0:Int)∧i=i∧(0:Int)=(0:Int)∧3=3∧a=a∧111=111∧b=b∧51=51∧ws=ws∧53=53∧kd=aW os ts (IntKind.wrap .u32 (aa rs (0+i.toNat*1)))∧tk=bt os ts (IntKind.wrap .u32 (aa rs (0+i.toNat*1)))∧hd=aR os ts (IntKind.wrap .u32 (aa rs (0+i.toNat*1)))∧62=62∧n=n∧n=n∧39=39∧ts=ts∧58=58∧os=os∧111=111∧xx=fH os ts (aa rs (0+i.toNat*1))∧3=3∧rs=rs∧True)∧(decide (i<(↑l:Int))=false→true=true)):=by kernel_rfl
theorem U5 (os ts ws a b:Array Value) (n l:Nat) (rs:Array Value) (i kd tk hd:Int) (xx:Array Value) (hh k:Int) (Q1:Int→Prop) (Q2:Int→Int→Prop):(stepT (ou os ts).go (run (ou os ts) 1000) 2 (AT os ts ws a b n l rs i kd tk hd xx hh k) (AU os ts ws a b n l rs i kd tk hd xx hh k)).vc (fun _ _=>False) (Np os ts ws a b n l rs i kd tk hd xx Q1 Q2) =
  ((decide (k<8)=true→((0≤k∧k<8)∧True)∧(bY xx (2+k.toNat*1)∧True)∧(bq xx (2+k.toNat*1)=true→(0≤k∧True)∧Q2 (ah .or .u8 hh (ah .shl .u8 (1:Int) k)) (ah .add .i64 k 1)∧cN∧ak (aD 2 [(2,2),(3,3),(4,4),(5,5),(6,6),(7,7),(8,8)]) kX kX∧l=l∧ah .or .u8 hh (ah .shl .u8 (1:Int) k)=ah .or .u8 hh (ah .shl .u8 (1:Int) k)∧i=i∧ah .add .i64 k 1=ah .add .i64 k 1∧3=3∧a=a∧111=111∧b=b∧51=51∧ws=ws∧53=53∧kd=kd∧tk=tk∧hd=hd∧62=62∧n=n∧n=n∧39=39∧ts=ts∧58=58∧os=os∧111=111∧xx=xx∧3=3∧rs=rs∧True)∧(bq xx (2+k.toNat*1)=false→Q2 hh (ah .add .i64 k 1)∧cN∧ak (aD 2 [(2,2),(3,3),(4,4),(5,5),(6,6),(7,7),(8,8)]) kX kX∧l=l∧hh=hh∧i=i∧ah .add .i64 k 1=ah .add .i64 k 1∧3=3∧a=a∧111=111∧b=b∧51=51∧ws=ws∧53=53∧kd=kd∧tk=tk∧hd=hd∧62=62∧n=n∧n=n∧39=39∧ts=ts∧58=58∧os=os∧111=111∧xx=xx∧3=3∧rs=rs∧True))∧(decide (k<8)=false→(aA .i64 xx 0∧True)∧(((IntKind.wrap .i64 kd != aa xx 0)==false)=true→(aA .i64 xx 1∧True)∧(((IntKind.wrap .i64 tk != aa xx 1)==false)=true→((hd != hh)=true→False)∧((hd != hh)=false→Q1 (ah .add .i64 i 1)∧cN∧ak (aD 2 [(2,2),(3,3),(4,4),(5,5),(6,6)]) nN nN∧l=l∧ah .add .i64 i 1=ah .add .i64 i 1∧3=3∧a=a∧111=111∧b=b∧51=51∧ws=ws∧62=62∧n=n∧n=n∧39=39∧ts=ts∧58=58∧os=os∧3=3∧rs=rs∧True))∧(((IntKind.wrap .i64 tk != aa xx 1)==false)=false→False))∧(((IntKind.wrap .i64 kd != aa xx 0)==false)=false→False))):=by kernel_rfl
theorem szE (os ts ws:Array Value):(run (Nn os ts) 1000 2 [a_ 7 Tryz.f7.ntmps (Ns ts ws os) (Tryz.f7.body.getD .skip)] mg).vc pA (fun _ _=>False) =
  ((ws.size=448∧True)∧(SW ts ws∧aM ts∧True)∧(decide ((af ts).length=0)=true→true=true)∧(decide ((af ts).length=0)=false→(decide ((0:Int)<(↑((af ts).length):Int))=true→False)∧(decide ((0:Int)<(↑((af ts).length):Int))=false→true=true))):=by kernel_rfl
theorem szF (os ts ws:Array Value) (l:Nat) (rs:Array Value) (Q:Int→Prop):(run (ou os ts) 1000 2 [a_ 7 Tryz.f7.ntmps (Ns ts ws os) (Tryz.f7.body.getD .skip)] mg).vc (fun _ _=>False) (E5 os ts ws l rs Q) =
  ((ws.size=448∧True)∧(SW ts ws∧aM ts∧True)∧(decide ((af ts).length=0)=true→False)∧(decide ((af ts).length=0)=false→Q (0:Int)∧cN∧ak (aD 2 [(2,2),(3,3),(4,4),(5,5),(6,6)]) nN nN∧l=(af ts).length∧(0:Int)=(0:Int)∧51=51∧ws=ws∧62=62∧Value.slice none 0 0=Value.slice none 0 0∧Value.slice none 0 0=Value.slice none 0 0∧39=39∧ts=ts∧58=58∧os=os∧3=3∧rs=aE (af ts)∧True)):=by kernel_rfl
theorem U6 (os ts ws:Array Value) (l:Nat) (rs:Array Value) (i kd tk hd:Int) (xx:Array Value) (Q:Int→Int→Prop):(stepT (ou os ts).go (run (ou os ts) 1000) 2 (xI os ts ws l rs i) (xJ os ts ws l rs i)).vc pA (E6 os ts ws l rs i kd tk hd xx Q) =
  ((decide (i<(↑l:Int))=true→(os.size=128∧True)∧(ts.size=448∧True)∧((0≤i∧i<(↑l:Int))∧True)∧(aA .i64 rs (0+i.toNat*1)∧True)∧(aS os∧ay ts∧(0≤IntKind.wrap .u32 (aa rs (0+i.toNat*1))∧IntKind.wrap .u32 (aa rs (0+i.toNat*1))<4294967296)∧True)∧(ws.size=448∧True)∧((0≤i∧i<(↑l:Int))∧True)∧(aA .i64 rs (0+i.toNat*1)∧True)∧(SW ts ws∧ay ts∧dP os ts∧True)∧((10:Nat)=10∧(10:Nat)=10∧True)∧Q (0:Int) (0:Int)∧cN∧ak (aD 2 [(2,2),(3,3),(4,4),(5,5),(6,6),(7,7),(8,8)]) kX kX∧l=l∧(0:Int)=(0:Int)∧i=i∧(0:Int)=(0:Int)∧51=51∧ws=ws∧53=53∧kd=aW os ts (IntKind.wrap .u32 (aa rs (0+i.toNat*1)))∧tk=bt os ts (IntKind.wrap .u32 (aa rs (0+i.toNat*1)))∧hd=aR os ts (IntKind.wrap .u32 (aa rs (0+i.toNat*1)))∧62=62∧Value.slice none 0 0=Value.slice none 0 0∧Value.slice none 0 0=Value.slice none 0 0∧39=39∧ts=ts∧58=58∧os=os∧111=111∧xx=fH os ts (aa rs (0+i.toNat*1))∧3=3∧rs=rs∧True)∧(decide (i<(↑l:Int))=false→true=true)):=by kernel_rfl
theorem U7 (os ts ws:Array Value) (l:Nat) (rs:Array Value) (i kd tk hd:Int) (xx:Array Value) (hh k:Int) (Q1:Int→Prop) (Q2:Int→Int→Prop):(stepT (ou os ts).go (run (ou os ts) 1000) 2 (AV os ts ws l rs i kd tk hd xx hh k) (AW os ts ws l rs i kd tk hd xx hh k)).vc (fun _ _=>False) (Nq os ts ws l rs i kd tk hd xx Q1 Q2) =
  ((decide (k<8)=true→((0≤k∧k<8)∧True)∧(bY xx (2+k.toNat*1)∧True)∧(bq xx (2+k.toNat*1)=true→(0≤k∧True)∧Q2 (ah .or .u8 hh (ah .shl .u8 (1:Int) k)) (ah .add .i64 k 1)∧cN∧ak (aD 2 [(2,2),(3,3),(4,4),(5,5),(6,6),(7,7),(8,8)]) kX kX∧l=l∧ah .or .u8 hh (ah .shl .u8 (1:Int) k)=ah .or .u8 hh (ah .shl .u8 (1:Int) k)∧i=i∧ah .add .i64 k 1=ah .add .i64 k 1∧51=51∧ws=ws∧53=53∧kd=kd∧tk=tk∧hd=hd∧62=62∧Value.slice none 0 0=Value.slice none 0 0∧Value.slice none 0 0=Value.slice none 0 0∧39=39∧ts=ts∧58=58∧os=os∧111=111∧xx=xx∧3=3∧rs=rs∧True)∧(bq xx (2+k.toNat*1)=false→Q2 hh (ah .add .i64 k 1)∧cN∧ak (aD 2 [(2,2),(3,3),(4,4),(5,5),(6,6),(7,7),(8,8)]) kX kX∧l=l∧hh=hh∧i=i∧ah .add .i64 k 1=ah .add .i64 k 1∧51=51∧ws=ws∧53=53∧kd=kd∧tk=tk∧hd=hd∧62=62∧Value.slice none 0 0=Value.slice none 0 0∧Value.slice none 0 0=Value.slice none 0 0∧39=39∧ts=ts∧58=58∧os=os∧111=111∧xx=xx∧3=3∧rs=rs∧True))∧(decide (k<8)=false→(aA .i64 xx 0∧True)∧(((IntKind.wrap .i64 kd != aa xx 0)==false)=true→(aA .i64 xx 1∧True)∧(((IntKind.wrap .i64 tk != aa xx 1)==false)=true→((hd != hh)=true→False)∧((hd != hh)=false→Q1 (ah .add .i64 i 1)∧cN∧ak (aD 2 [(2,2),(3,3),(4,4),(5,5),(6,6)]) nN nN∧l=l∧ah .add .i64 i 1=ah .add .i64 i 1∧51=51∧ws=ws∧62=62∧Value.slice none 0 0=Value.slice none 0 0∧Value.slice none 0 0=Value.slice none 0 0∧39=39∧ts=ts∧58=58∧os=os∧3=3∧rs=rs∧True))∧(((IntKind.wrap .i64 tk != aa xx 1)==false)=false→False))∧(((IntKind.wrap .i64 kd != aa xx 0)==false)=false→False))):=by kernel_rfl
set_option linter.unusedVariables false
theorem PG (os ts:Array Value):∀ g l m t,E2 os ts g l m=some t→aq E0 g l m t:=by
 intro g l m t h
 unfold E2 at h
 split at h
 ·rename_i e;cases h;exact Iu os ts _ _ _ _ e
 ·exact zD _ _ _ _ h
theorem oS (os ts:Array Value):bf (ou os ts):=bf.with aU _ _ (PG os ts)
theorem R_ (os ts:Array Value):bf (Nn os ts):=bf.with aU _ _ (PG os ts)
def hbC:Bool:=(List.range 256).all fun h=>kM (h:Int) 8==(h:Int)
theorem abc:hbC=true:=by kernel_rfl
theorem QK {h:Int} (h0:0≤h) (h1:h≤255):kM h 8=h:=by
 obtain ⟨n,rfl⟩:∃ n:Nat,h=(n:Int):=⟨h.toNat,by omega⟩
 have:=List.all_eq_true.1 abc n (List.mem_range.2 (by omega))
 exact eq_of_beq this
section
variable {os ts ws a b:Array Value} {n:Nat} {A:SV→aj→Prop}
theorem AX (ho:aS os) (x:Int):(0≤aW os ts x∧aW os ts x≤255)∧(0≤bt os ts x∧bt os ts x≤255)∧(0≤aR os ts x∧aR os ts x≤255):=by
 have c:=ho.c _ (u9 (aO ts x))
 unfold aW bt aR
 split
 ·exact ⟨c.hk,c.ht,c.hh⟩
 ·exact ⟨⟨by decide,by decide⟩,⟨by decide,by decide⟩,⟨by decide,by decide⟩⟩
theorem PI {l:Nat} {rs:Array Value} {i kd tk hd:Int} {xx:Array Value} {Q1:Int→Prop} {Q2:Int→Int→Prop} {fs:List av} {m:aj} (h1:∀ i,Q1 i→Good Tryz.prog A 2 (xG os ts ws a b n l rs i) (xH os ts ws a b n l rs i)) (h2:∀ hh k,Q2 hh k→Good Tryz.prog A 2 (AT os ts ws a b n l rs i kd tk hd xx hh k) (AU os ts ws a b n l rs i kd tk hd xx hh k)) (hb:Np os ts ws a b n l rs i kd tk hd xx Q1 Q2 fs m):Good Tryz.prog A 2 fs m:=by
 unfold Np at hb
 split at hb
 ·exact PE h1 hb
 ·exact Iv h2 hb
theorem abd {l:Nat} {rs:Array Value} {i:Nat} (hi:i<1000) {x:Int} (ho:aS os) (next:Good Tryz.prog A 2 (xG os ts ws a b n l rs ((i+1:Nat):Int)) (xH os ts ws a b n l rs ((i+1:Nat):Int))):∀ (r k:Nat),k+r=8→Good Tryz.prog A 2 (AT os ts ws a b n l rs (i:Int) (aW os ts x) (bt os ts x) (aR os ts x) (fH os ts x) (kM (aR os ts x) k) (k:Int)) (AU os ts ws a b n l rs (i:Int) (aW os ts x) (bt os ts x) (aR os ts x) (fH os ts x) (kM (aR os ts x) k) (k:Int)):=by
 obtain ⟨f0,f1,v0,v1⟩:=uF os ts x
 obtain ⟨b1,b2,b3⟩:=AX (ts:=ts) ho x
 have w1:IntKind.i64.wrap (aW os ts x)=aW os ts x:=cC (by omega) (by omega)
 have w2:IntKind.i64.wrap (bt os ts x)=bt os ts x:=cC (by omega) (by omega)
 intro r
 induction r with
 | zero =>
  intro k hk
  obtain rfl:k=8:=by omega
  refine bD (oS os ts) 1000 (U5 os ts ws a b n l rs _ _ _ _ _ _ _ (fun i'=>i'=((i+1:Nat):Int)) (fun _ _=>False)) ?_ (fun _ _ h=>h.elim) (fun fs m hb=>PI (fun i' e=>by rw [e];exact next) (fun _ _ h=>h.elim) hb)
  have d:decide (((8:Nat):Int)<8)=false:=rfl
  have ei:ah .add .i64 (i:Int) 1=((i+1:Nat):Int):=by rw [dn,cC (by omega) (by omega)];omega
  have e8:=QK b3.1 b3.2
  simp only [d,ei,e8,f0,f1,v0,v1,w1,w2,bne_self_eq_false,beq_self_eq_true,CI,q6]
 | succ r ih =>
  intro k hk
  have k0:0≤(k:Int):=by omega
  have k1:(k:Int)<8:=by omega
  have d:decide ((k:Int)<8)=true:=decide_eq_true k1
  have ek:ah .add .i64 (k:Int) 1=((k+1:Nat):Int):=by rw [dn,cC (by omega) (by omega)];omega
  obtain ⟨xb,vb⟩:bY (fH os ts x) (2+(k:Int).toNat*1)∧bq (fH os ts x) (2+(k:Int).toNat*1)=bJ (aR os ts x) (k:Int):=w4 (aW os ts x) (bt os ts x) (aR os ts x) k0 k1
  have e1:kM (aR os ts x) (k+1)=if bJ (aR os ts x) (k:Int)=true then ah .or .u8 (kM (aR os ts x) k) (ah .shl .u8 1 (k:Int)) else kM (aR os ts x) k:=rfl
  refine bD (oS os ts) 1000 (U5 os ts ws a b n l rs _ _ _ _ _ _ (k:Int) (fun _=>False) (fun h' k'=>h'=kM (aR os ts x) (k+1)∧k'=((k+1:Nat):Int))) ?_ (fun _ _ h=>h.elim) (fun fs m hb=>PI (fun _ h=>h.elim) (fun h' k' ⟨q1,q2⟩=>by rw [q1,q2];exact ih (k+1) (by omega)) hb)
  rw [e1]
  cases c:bJ (aR os ts x) (k:Int) <;> simp only [d,ek,k0,k1,xb,vb,c,if_true,if_false,decide_true,CJ,q6]
theorem abe (w:SW ts ws) (hf:ay ts) (ho:aS os) (hr:bZ os ts a b n n):∀ (r i:Nat),i+r=(af ts).length→Good Tryz.prog pA 2 (xG os ts ws a b n (af ts).length (aE (af ts)) (i:Int)) (xH os ts ws a b n (af ts).length (aE (af ts)) (i:Int)):=by
 have hlen:=iw ts
 have hz:=w.sz
 have hos:=ho.sz
 have hts:=hf.ok.sz
 intro r
 induction r with
 | zero =>
  intro i hi
  obtain rfl:i=(af ts).length:=by omega
  refine bD (oS os ts) 1000 (U4 os ts ws a b n _ _ _ 0 0 0 #[] (fun _ _=>False)) ?_ (fun _ _ h=>h) (fun fs m hb=>Iv (fun _ _ h=>h.elim) hb)
  have d:decide (((af ts).length:Int)<((af ts).length:Int))=false:=decide_eq_false (by omega)
  simp only [d,q6]
 | succ r ih =>
  intro i hi
  have hi':i<(af ts).length:=by omega
  have d:decide ((i:Int)<((af ts).length:Int))=true:=decide_eq_true (by omega)
  have g1:aA .i64 (aE (af ts)) i:=bw (fj hi')
  have g2:aa (aE (af ts)) i=(af ts).getD i 0:=bI (fj hi')
  have y0:0≤(i:Int):=by omega
  have y1:(i:Int)<((af ts).length:Int):=by omega
  have hx:aN ((af ts).getD i 0):=iA hf.ok (.inr (nV hf.ok hi'))
  have ew:=pI hx
  have hx':0≤(af ts).getD i 0∧(af ts).getD i 0<4294967296:=hx
  refine bD (oS os ts) 1000 (U4 os ts ws a b n _ _ (i:Int) (aW os ts ((af ts).getD i 0)) (bt os ts ((af ts).getD i 0)) (aR os ts ((af ts).getD i 0)) (fH os ts ((af ts).getD i 0)) (fun h' k'=>h'=0∧k'=((0:Nat):Int))) ?_ (fun _ _ h=>h) (fun fs m hb=>Iv (fun h' k' ⟨q1,q2⟩=>by rw [q1,q2];exact abd (by omega) ho (ih (i+1) (by omega)) 8 0 (Nat.zero_add _)) hb)
  simp only [d,g1,g2,ew,hx',y0,y1,hz,hos,hts,w,hf,ho,hr,decide_true,CJ,q7,q6]
  rfl
theorem PJ {l:Nat} {rs:Array Value} {i kd tk hd:Int} {xx:Array Value} {Q1:Int→Prop} {Q2:Int→Int→Prop} {fs:List av} {m:aj} (h1:∀ i,Q1 i→Good Tryz.prog A 2 (xI os ts ws l rs i) (xJ os ts ws l rs i)) (h2:∀ hh k,Q2 hh k→Good Tryz.prog A 2 (AV os ts ws l rs i kd tk hd xx hh k) (AW os ts ws l rs i kd tk hd xx hh k)) (hb:Nq os ts ws l rs i kd tk hd xx Q1 Q2 fs m):Good Tryz.prog A 2 fs m:=by
 unfold Nq at hb
 split at hb
 ·exact PF h1 hb
 ·exact Iw h2 hb
theorem abf {l:Nat} {rs:Array Value} {i:Nat} (hi:i<1000) {x:Int} (ho:aS os) (next:Good Tryz.prog A 2 (xI os ts ws l rs ((i+1:Nat):Int)) (xJ os ts ws l rs ((i+1:Nat):Int))):∀ (r k:Nat),k+r=8→Good Tryz.prog A 2 (AV os ts ws l rs (i:Int) (aW os ts x) (bt os ts x) (aR os ts x) (fH os ts x) (kM (aR os ts x) k) (k:Int)) (AW os ts ws l rs (i:Int) (aW os ts x) (bt os ts x) (aR os ts x) (fH os ts x) (kM (aR os ts x) k) (k:Int)):=by
 obtain ⟨f0,f1,v0,v1⟩:=uF os ts x
 obtain ⟨b1,b2,b3⟩:=AX (ts:=ts) ho x
 have w1:IntKind.i64.wrap (aW os ts x)=aW os ts x:=cC (by omega) (by omega)
 have w2:IntKind.i64.wrap (bt os ts x)=bt os ts x:=cC (by omega) (by omega)
 intro r
 induction r with
 | zero =>
  intro k hk
  obtain rfl:k=8:=by omega
  refine bD (oS os ts) 1000 (U7 os ts ws l rs _ _ _ _ _ _ _ (fun i'=>i'=((i+1:Nat):Int)) (fun _ _=>False)) ?_ (fun _ _ h=>h.elim) (fun fs m hb=>PJ (fun i' e=>by rw [e];exact next) (fun _ _ h=>h.elim) hb)
  have d:decide (((8:Nat):Int)<8)=false:=rfl
  have ei:ah .add .i64 (i:Int) 1=((i+1:Nat):Int):=by rw [dn,cC (by omega) (by omega)];omega
  have e8:=QK b3.1 b3.2
  simp only [d,ei,e8,f0,f1,v0,v1,w1,w2,bne_self_eq_false,beq_self_eq_true,CI,q6]
 | succ r ih =>
  intro k hk
  have k0:0≤(k:Int):=by omega
  have k1:(k:Int)<8:=by omega
  have d:decide ((k:Int)<8)=true:=decide_eq_true k1
  have ek:ah .add .i64 (k:Int) 1=((k+1:Nat):Int):=by rw [dn,cC (by omega) (by omega)];omega
  obtain ⟨xb,vb⟩:bY (fH os ts x) (2+(k:Int).toNat*1)∧bq (fH os ts x) (2+(k:Int).toNat*1)=bJ (aR os ts x) (k:Int):=w4 (aW os ts x) (bt os ts x) (aR os ts x) k0 k1
  have e1:kM (aR os ts x) (k+1)=if bJ (aR os ts x) (k:Int)=true then ah .or .u8 (kM (aR os ts x) k) (ah .shl .u8 1 (k:Int)) else kM (aR os ts x) k:=rfl
  refine bD (oS os ts) 1000 (U7 os ts ws l rs _ _ _ _ _ _ (k:Int) (fun _=>False) (fun h' k'=>h'=kM (aR os ts x) (k+1)∧k'=((k+1:Nat):Int))) ?_ (fun _ _ h=>h.elim) (fun fs m hb=>PJ (fun _ h=>h.elim) (fun h' k' ⟨q1,q2⟩=>by rw [q1,q2];exact ih (k+1) (by omega)) hb)
  rw [e1]
  cases c:bJ (aR os ts x) (k:Int) <;> simp only [d,ek,k0,k1,xb,vb,c,if_true,if_false,decide_true,CJ,q6]
theorem abg (w:SW ts ws) (hf:ay ts) (ho:aS os) (hr:dP os ts):∀ (r i:Nat),i+r=(af ts).length→Good Tryz.prog pA 2 (xI os ts ws (af ts).length (aE (af ts)) (i:Int)) (xJ os ts ws (af ts).length (aE (af ts)) (i:Int)):=by
 have hlen:=iw ts
 have hz:=w.sz
 have hos:=ho.sz
 have hts:=hf.ok.sz
 intro r
 induction r with
 | zero =>
  intro i hi
  obtain rfl:i=(af ts).length:=by omega
  refine bD (oS os ts) 1000 (U6 os ts ws _ _ _ 0 0 0 #[] (fun _ _=>False)) ?_ (fun _ _ h=>h) (fun fs m hb=>Iw (fun _ _ h=>h.elim) hb)
  have d:decide (((af ts).length:Int)<((af ts).length:Int))=false:=decide_eq_false (by omega)
  simp only [d,q6]
 | succ r ih =>
  intro i hi
  have hi':i<(af ts).length:=by omega
  have d:decide ((i:Int)<((af ts).length:Int))=true:=decide_eq_true (by omega)
  have g1:aA .i64 (aE (af ts)) i:=bw (fj hi')
  have g2:aa (aE (af ts)) i=(af ts).getD i 0:=bI (fj hi')
  have y0:0≤(i:Int):=by omega
  have y1:(i:Int)<((af ts).length:Int):=by omega
  have hx:aN ((af ts).getD i 0):=iA hf.ok (.inr (nV hf.ok hi'))
  have ew:=pI hx
  have hx':0≤(af ts).getD i 0∧(af ts).getD i 0<4294967296:=hx
  refine bD (oS os ts) 1000 (U6 os ts ws _ _ (i:Int) (aW os ts ((af ts).getD i 0)) (bt os ts ((af ts).getD i 0)) (aR os ts ((af ts).getD i 0)) (fH os ts ((af ts).getD i 0)) (fun h' k'=>h'=0∧k'=((0:Nat):Int))) ?_ (fun _ _ h=>h) (fun fs m hb=>Iw (fun h' k' ⟨q1,q2⟩=>by rw [q1,q2];exact abf (by omega) ho (ih (i+1) (by omega)) 8 0 (Nat.zero_add _)) hb)
  simp only [d,g1,g2,ew,hx',y0,y1,hz,hos,hts,w,hf,ho,hr,decide_true,CJ,q7,q6]
  rfl
theorem TV:E0.fn 7=some Tryz.f7:=by kernel_rfl
theorem Sa:Tryz.f7.body=some (Tryz.f7.body.getD .skip):=by kernel_rfl
theorem WX {m:aj} {i j:Nat} {n k':SN} {c1 c2:SK} {w1 w2:Bool} (dZ:aH m.bl i=some ⟨.pop a,3,w1⟩) (e_:aH m.bl j=some ⟨.pop b,111,w2⟩) :
  aq E0 7 [bB ts,bg ws,cJ os,.s (.agg (.ls [.f (.slice i (.l 0) n c1),.f (.slice j (.l 0) k' c2)]))] m (bu [SW ts ws,ay ts,aS os,bZ os ts a b n.den k'.den] (.ret (sB (.l true)) m)):=by
 refine aq.asked fun hq=>?_
 have w:SW ts ws:=hq _ (by simp)
 have hf:ay ts:=hq _ (by simp)
 have ho:aS os:=hq _ (by simp)
 have hr:bZ os ts a b n.den k'.den:=hq _ (by simp)
 have hb:=hf.ok
 have hz:=w.sz
 obtain ⟨l,el,e1,e2,e3⟩:=hr.l
 have ek:k'.den=n.den:=e2.trans e1.symm
 have hn:bZ os ts a b n.den n.den:=by rw [ek] at hr;exact hr
 have hl:∀ R vs,aK (SV.ok R) [bB ts,bg ws,cJ os,.s (.agg (.ls [.f (.slice i (.l 0) n c1),.f (.slice j (.l 0) k' c2)]))] vs→aK (SV.ok (pull (fun q=>if q=0 then i else j) (fM a b).next R)) (Nr ts ws os n.den) vs:=by
  intro R vs ha
  match vs,ha with
  | [u,v,x,z],ha=>exact ⟨ha.1,ha.2.1,ha.2.2.1,o9 rfl ek rfl ha.2.2.2.1,trivial⟩
 refine (show aq E0 7 _ m (bu [] _) from aq.mI (q:=[]) aU TV Sa rfl (fun q=>if q=0 then i else j) (m4 dZ e_) hl (A:=pA) (fun _=>?_) ?_)
 ·cases c:decide ((af ts).length=0) with
  | true =>
   refine bA (R_ os ts) 1000 (jvA os ts ws a b n.den) ?_ (fun s m h=>h) fun fs m hb=>hb.elim
   simp only [c,hz,w,hb,q6]
  | false =>
   refine bA (oS os ts) 1000 (jvB os ts ws a b n.den (af ts).length (aE (af ts)) (fun i=>i=((0:Nat):Int))) ?_ (fun s m h=>h.elim) fun fs m hb=>PE (fun i e=>by rw [e];exact abe w hf ho hn _ 0 (Nat.zero_add _)) hb
   simp only [c,hz,w,hb,CI,q6]
   rfl
 ·intro s m' R R' v hs hv
  unfold pA at hs
  split at hs
  ·rename_i b0
   have hv:v=.bool b0.den:=hv
   rw [hs] at hv
   exact hv
  ·exact hs.elim
theorem WY (m:aj):aq E0 7 [bB ts,bg ws,cJ os,ff] m (bu [SW ts ws,ay ts,aS os,dP os ts] (.ret (sB (.l true)) m)):=by
 refine aq.asked fun hq=>?_
 have w:SW ts ws:=hq _ (by simp)
 have hf:ay ts:=hq _ (by simp)
 have ho:aS os:=hq _ (by simp)
 have hr:dP os ts:=hq _ (by simp)
 have hb:=hf.ok
 have hz:=w.sz
 refine (show aq E0 7 _ m (bu [] _) from aq.mI (q:=[]) aU TV Sa rfl (fun q=>q) (ms:=mg) (fun i b hb=>?_) (l':=Ns ts ws os) (fun R vs ha=>?_) (A:=pA) (fun _=>?_) ?_)
 ·have hb:(Tr.nil:Tr bN).get i=some b:=hb
  rw [Tr.get_nil] at hb
  cases hb
 ·exact mw rfl ha
 ·cases c:decide ((af ts).length=0) with
  | true =>
   refine bA (R_ os ts) 1000 (szE os ts ws) ?_ (fun s m h=>h) fun fs m hb=>hb.elim
   simp only [c,hz,w,hb,q6]
  | false =>
   refine bA (oS os ts) 1000 (szF os ts ws (af ts).length (aE (af ts)) (fun i=>i=((0:Nat):Int))) ?_ (fun s m h=>h.elim) fun fs m hb=>PF (fun i e=>by rw [e];exact abg w hf ho hr _ 0 (Nat.zero_add _)) hb
   simp only [c,hz,w,hb,CI,q6]
   rfl
 ·intro s m' R R' v hs hv
  unfold pA at hs
  split at hs
  ·rename_i b0
   have hv:v=.bool b0.den:=hv
   rw [hs] at hv
   exact hv
  ·exact hs.elim
end
set_option linter.unusedVariables false
noncomputable def GU:Env:=⟨Tryz.prog,dg,nT,dy [10*1000+4]⟩
noncomputable def U8:Env:=⟨Tryz.prog,dg,nT,dy []⟩
noncomputable def t_:List bh:=cY Tryz.f10 4
noncomputable def E7 (n:Nat) (a:Array Value) (b:Array Value) (i:Int):List av:=[dw 10 Tryz.f10 [(0,nA 0 n),(1,nA 1 n),(5,i64 (.o i))] t_]
noncomputable def E8 (n:Nat) (a:Array Value) (b:Array Value) (i:Int):aj:=cD 2 [(0,⟨.pop a,30,false⟩),(1,⟨.pop b,3,false⟩)]
def E9 (n:Nat) (a:Array Value) (b:Array Value) (Q:Int→Prop) (fs:List av) (m:aj):Prop:=(match b9 fs 0 with | some f0=>(match dh f0 5 with | some i=>Q i∧cV 2 [] (E7 n a b i) (E8 n a b i) fs m | none=>False) | none=>False)
theorem OG (r:Nat→Option Nat):ak r t_ t_:=ak.it (by kernel_rfl)
theorem Ix {A:SV→aj→Prop} {n:Nat} {a:Array Value} {b:Array Value} {Q:Int→Prop} {fs:List av} {m:aj} (H:∀ i,Q i→Good Tryz.prog A 2 (E7 n a b i) (E8 n a b i)) (hb:E9 n a b Q fs m):Good Tryz.prog A 2 fs m:=by
 unfold E9 at hb
 iterate 2 (split at hb;rotate_left;exact hb.elim)
 exact Good.c_ hb.2 (H _ hb.1)
set_option maxRecDepth 100000
theorem vr0 (n:Nat) (a b:Array Value) (Q:Int→Prop):(run GU 1000 2 [a_ 10 Tryz.f10.ntmps [nA 0 n,nA 1 n] (Tryz.f10.body.getD .skip)] (pP a b)).vc (gD true) (E9 n a b Q) =
  ((((↑n:Int) != (↑n:Int))=true→false=true)∧(((↑n:Int) != (↑n:Int))=false→Q (0:Int)∧cN∧ak (aD 2 []) t_ t_∧n=n∧n=n∧(0:Int)=(0:Int)∧30=30∧a=a∧3=3∧b=b∧True)):=by kernel_rfl
theorem U9 (n:Nat) (a b:Array Value) (i:Int) (Q:Int→Prop):(stepT GU.go (run GU 1000) 2 (E7 n a b i) (E8 n a b i)).vc (gD true) (E9 n a b Q) =
  ((decide (i<(↑n:Int))=true→((0≤i∧i<(↑n:Int))∧True)∧(aA .u32 a (0+i.toNat*1)∧True)∧((0≤i∧i<(↑n:Int))∧True)∧(aA .i64 b (0+i.toNat*1)∧True)∧((IntKind.wrap .i64 (aa a (0+i.toNat*1)) != aa b (0+i.toNat*1))=true→false=true)∧((IntKind.wrap .i64 (aa a (0+i.toNat*1)) != aa b (0+i.toNat*1))=false→Q (ah .add .i64 i 1)∧cN∧ak (aD 2 []) t_ t_∧n=n∧n=n∧ah .add .i64 i 1=ah .add .i64 i 1∧30=30∧a=a∧3=3∧b=b∧True))∧(decide (i<(↑n:Int))=false→true=true)):=by kernel_rfl
theorem vrZ (z:Nat):(run U8 1000 0 [a_ 10 Tryz.f10.ntmps [jd,jd] (Tryz.f10.body.getD .skip)] aT).vc (gD true) (fun _ _=>False) =
  (true=true):=by kernel_rfl
theorem nm8 (ws:Array Value) (n:Int) (o:Int):(run M7 1000 0 [a_ 19 Tryz.f19.ntmps [bg ws,.s (.c (.f (.int .u32 (.o n))))] (Tryz.f19.body.getD .skip)] aT).vc (bM 0 [] (i64 (.o o)) aT) (fun _ _=>False) =
  (((decide (n≥1)==true)=true→((decide (n≤32)==true)=true→((0≤ah .sub .u32 n 1∧ah .sub .u32 n 1<32)∧True)∧(aA .i64 ws (32+(ah .sub .u32 n 1).toNat*1)∧True)∧((aa ws (32+(ah .sub .u32 n 1).toNat*1)==1)=true→(64≤ws.size∧True)∧(WB (Array.extract ws 0 64)∧(0≤IntKind.wrap .i64 (ah .sub .u32 n 1)∧IntKind.wrap .i64 (ah .sub .u32 n 1)<32)∧True)∧o=cW ((IntKind.wrap .i64 (ah .sub .u32 n 1)).toNat) (cZ (Array.extract ws 0 64) ((IntKind.wrap .i64 (ah .sub .u32 n 1)).toNat))∧True)∧((aa ws (32+(ah .sub .u32 n 1).toNat*1)==1)=false→o=IntKind.wrap .i64 n∧True))∧((decide (n≤32)==true)=false→o=IntKind.wrap .i64 n∧True))∧((decide (n≥1)==true)=false→o=IntKind.wrap .i64 n∧True)):=by kernel_rfl
set_option linter.unusedVariables false
theorem JO:bf GU:=bf.with aU _ _ oC
theorem abj:bf U8:=bf.with aU _ _ oC
theorem abk {l:List Int} (hl:l.length≤32) (hi:∀ x∈l,aN x):∀ (r i:Nat),i+r=l.length→Good Tryz.prog (gD true) 2 (E7 l.length (aL l) (aE l) (i:Int)) (E8 l.length (aL l) (aE l) (i:Int)):=by
 intro r
 induction r with
 | zero =>
  intro i hi
  obtain rfl:i=l.length:=by omega
  refine bD JO 1000 (U9 _ _ _ _ (fun _=>False)) ?_ (fun _ _ h=>h) (fun fs m hb=>Ix (fun _ h=>h.elim) hb)
  have d:decide ((l.length:Int)<(l.length:Int))=false:=decide_eq_false (by omega)
  simp only [d,q6]
 | succ r ih =>
  intro i hi2
  have hi':i<l.length:=by omega
  refine bD JO 1000 (U9 _ _ _ (i:Int) (fun i'=>i'=((i+1:Nat):Int))) ?_ (fun _ _ h=>h) (fun fs m hb=>Ix (fun i' e1=>by rw [e1];exact ih (i+1) (by omega)) hb)
  have d:decide ((i:Int)<(l.length:Int))=true:=decide_eq_true (by omega)
  have ei:ah .add .i64 (i:Int) 1=((i+1:Nat):Int):=by rw [dn,cC (by omega) (by omega)];omega
  have g1:aA .u32 (aL l) i:=bw (fN hi')
  have g2:aa (aL l) i=l.getD i 0:=bI (fN hi')
  have g3:aA .i64 (aE l) i:=bw (fj hi')
  have g4:aa (aE l) i=l.getD i 0:=bI (fj hi')
  have y0:0≤(i:Int):=by omega
  have y1:(i:Int)<(l.length:Int):=by omega
  have ew:IntKind.i64.wrap (l.getD i 0)=l.getD i 0:=uZ (hi _ (by rw [List.getD_eq_getElem?_getD,List.getElem?_eq_getElem hi'];exact List.getElem_mem _))
  simp only [d,ei,g1,g2,g3,g4,y0,y1,ew,bne_self_eq_false,decide_true,OG,q7,q6]
theorem Tb:E0.fn 10=some Tryz.f10:=by kernel_rfl
theorem QT:Tryz.f10.body=some (Tryz.f10.body.getD .skip):=by kernel_rfl
theorem WZ (m:aj):aq E0 10 [jd,jd] m (bu [] (.ret (sB (.l true)) m)):=by
 refine aq.mI (ms:=aT) (l':=[jd,jd]) aU Tb QT rfl (fun _=>0) (fun q b hb=>by cases hb) (fun R vs hv=>mw (by kernel_rfl) hv) (A:=gD true) (fun hq=>?_) (fun s m' R R' v hs hv=>DA hs hv)
 exact bA abj 1000 (vrZ 0) (by simp) (fun s m h=>h) fun fs m h=>h.elim
theorem Yd {m:aj} {i j:Nat} {n k:SN} {c1 c2:SK} {a b:Array Value} {w1 w2:Bool} (dZ:aH m.bl i=some ⟨.pop a,30,w1⟩) (e_:aH m.bl j=some ⟨.pop b,3,w2⟩):aq E0 10 [.s (.c (.f (.slice i (.l 0) n c1))),.s (.c (.f (.slice j (.l 0) k c2)))] m (.need [jh a b n.den k.den] (.ret (sB (.l true)) m)):=by
 refine aq.asked fun hq=>?_
 obtain ⟨l,rfl,rfl,e1,e2,e3,e4⟩:jh a b n.den k.den:=hq _ (by simp)
 have hm:∀ q b,aH (pP (aL l) (aE l)).bl q=some b→q<(pP (aL l) (aE l)).next∧b.wr=false∧∃ d,aH m.bl ((fun q=>if q=0 then i else j) q)=some d∧b.ty=d.ty∧∀ R cs,d.arr.cH R cs→b.arr.cH (pull (fun q=>if q=0 then i else j) (pP (aL l) (aE l)).next R) cs:=by
  intro q b hb
  have hb:aH (((Tr.nil:Tr bN).set 0 (some ⟨.pop (aL l),30,false⟩)).set 1 (some ⟨.pop (aE l),3,false⟩)) q=some b:=hb
  rw [jv] at hb
  split at hb
  ·rename_i e;cases hb;subst e;exact ⟨(show 1<2 by decide),rfl,_,e_,rfl,fun R cs h=>h⟩
  ·rw [jv] at hb
   split at hb
   ·rename_i e;cases hb;subst e;exact ⟨(show 0<2 by decide),rfl,_,dZ,rfl,fun R cs h=>h⟩
   ·have hb:(Tr.nil:Tr bN).get q=some b:=hb
    rw [Tr.get_nil] at hb
    cases hb
 have hl:∀ R vs,aK (SV.ok R) [.s (.c (.f (.slice i (.l 0) n c1))),.s (.c (.f (.slice j (.l 0) k c2)))] vs→aK (SV.ok (pull (fun q=>if q=0 then i else j) (pP (aL l) (aE l)).next R)) [nA 0 l.length,nA 1 l.length] vs:=by
  intro R vs ha
  match vs,ha with
  | [u,v],ha =>
   obtain ⟨⟨g,cp,k1,k2,k3,k4⟩,⟨g',nB,th,vO,M8,oq⟩,_⟩:=ha
   exact ⟨⟨g,cp,by unfold pull;exact k1,by rw [k2,e1],trivial,by rw [e1] at k4;exact k4⟩,⟨g',nB,by unfold pull;exact th,by rw [vO,e2],trivial,by rw [e2] at oq;exact oq⟩,trivial⟩
 refine (show aq E0 10 _ m (bu [] _) from aq.mI aU Tb QT rfl (fun q=>if q=0 then i else j) hm hl (A:=gD true) (fun _=>?_) (fun s m' R R' v hs hv=>DA hs hv))
 refine bA JO 1000 (vr0 l.length (aL l) (aE l) (fun i=>i=((0:Nat):Int))) ?_ (fun s m h=>h) fun fs m hb=>Ix (fun i e=>by rw [e];exact abk e3 e4 _ 0 (Nat.zero_add _)) hb
 simp only [bne_self_eq_false,OG,q6]
 rfl
section
variable {ts ws:Array Value}
theorem Zu (n:Int) (m:aj):aq E0 19 [bg ws,.s (.c (.f (.int .u32 (.o n))))] m (bu [SW ts ws,aM ts,aN n] (.ret (i64 (.o (au ts n))) m)):=by
 refine aq.pure aU (by kernel_rfl:E0.fn 19=some Tryz.f19) (by kernel_rfl:Tryz.f19.body=some (Tryz.f19.body.getD .skip)) (by kernel_rfl) (by kernel_rfl) fun hq=>?_
 have w:SW ts ws:=hq _ (by simp)
 have hb:aM ts:=hq _ (by simp)
 have hn:aN n:=hq _ (by simp)
 have hz:=w.sz
 have bK:(64:Nat)≤448:=by decide
 have wb:=w.wb hb
 have ew:=uZ hn
 refine (Good.ret [] (bA RX 1000 (nm8 ws n (au ts n)) ?_ (fun s m h=>h) fun _ _ h=>h.elim)).mono fun _ _ h=>h.1
 by_cases c1:1≤n
 ·have d1:decide (n≥1)=true:=decide_eq_true c1
  by_cases c2:n≤32
  ·have d2:decide (n≤32)=true:=decide_eq_true c2
   obtain ⟨i,rfl⟩:∃ i:Nat,n=(i:Int)+1:=⟨(n - 1).toNat,by omega⟩
   have hi:i<32:=by omega
   have es:ah .sub .u32 ((i:Int)+1) 1=(i:Int):=by rw [zQ,show (i:Int)+1 - 1=(i:Int) by omega];exact u32_in (by omega) (by omega)
   have Ce:IntKind.i64.wrap (i:Int)=(i:Int):=cC (by omega) (by omega)
   have y0:0≤(i:Int):=by omega
   have y1:(i:Int)<32:=by omega
   have k1:ws[32+i]?=some (.int .i64 (cB (aF ts) i)):=w.s i hi
   have g:=w.gn hi
   have en:au ts ((i:Int)+1)=if cB (aF ts) i=1 then gw ts i else (i:Int)+1:=by
    unfold au
    rw [show (i:Int)+1 - 1=(i:Int) by omega,Int.toNat_natCast]
    by_cases k:cB (aF ts) i=1
    ·rw [if_pos k,if_pos ⟨c1,c2,k⟩]
    ·rw [if_neg k,if_neg (fun q=>k q.2.2)]
   rw [en]
   cases k:(cB (aF ts) i==1) with
   | true =>
    rw [if_pos (beq_iff_eq.1 k)]
    simp only [d1,d2,es,Ce,y0,y1,bw k1,bI k1,k,g,hz,bK,wb,dJ,cF,Nat.mul_one,Int.toNat_natCast,q6]
    rfl
   | false =>
    rw [if_neg (beq_eq_false_iff_ne.1 k)]
    simp only [d1,d2,es,ew,y0,y1,bw k1,bI k1,k,dJ,cF,Nat.mul_one,Int.toNat_natCast,q6]
  ·have d2:decide (n≤32)=false:=decide_eq_false c2
   have en:au ts n=n:=if_neg (fun q=>c2 q.2.1)
   simp only [d1,d2,en,ew,dJ,cF,q6]
 ·have d1:decide (n≥1)=false:=decide_eq_false c1
  have en:au ts n=n:=if_neg (fun q=>c1 q.1)
  simp only [d1,en,ew,dJ,cF,q6]
end
set_option linter.unusedVariables false
noncomputable def erS (i j n:Nat) (e:Int):SV:=.bW [.agg (.ls [.f (.slice i (.l 0) (.o n) .any),.f (.slice j (.l 0) (.o n) .any)]),.c (.f (.int .i64 (.o e)))]
noncomputable def enS (e:Int):SV:=.bW [.agg (.ls [.f (.lit (.slice none 0 0)),.f (.lit (.slice none 0 0))]),.c (.f (.int .i64 (.o e)))]
noncomputable def er3 (i j n:Nat) (e:Int):SV:=.bW [.agg (.ls [.f (.slice i (.l 0) (.o n) .any),.f (.slice j (.l 0) (.o n) .any)]),.c (.f (.int .i64 (.l 0))),.c (.f (.int .i64 (.o e)))]
noncomputable def en3 (e:Int):SV:=.bW [.agg (.ls [.f (.lit (.slice none 0 0)),.f (.lit (.slice none 0 0))]),.c (.f (.int .i64 (.l 0))),.c (.f (.int .i64 (.o e)))]
noncomputable def KT (os ts:Array Value) (g:FuncId) (l:List SV) (m:aj):Option Tree:=match g,l with
 | 19,[.s (.agg (.op ws)),.s (.c (.f (.int .u32 n)))]=>some (.need [SW ts ws,aM ts,aN n.den] (.ret (i64 (.o (au ts n.den))) m))
 | 15,[.s (.agg (.op os)),.s (.agg (.op ts)),.s (.c (.f (.int .u32 h))),.s (.c (.f (.int .i64 t)))]=>some (.need [aS os,ay ts,aN h.den] (.ret (nE (dG os ts h.den t.den) (b8 ts h.den t.den)) m))
 | 16,[.s (.agg (.op os)),.s (.agg (.op ts)),.s (.c (.f (.int .u32 h))),.s (.c (.f (.int .i64 t)))]=>some (.need [aS os,ay ts,aN h.den] (.ret (nE (dH os ts h.den t.den) (b8 ts h.den t.den)) m))
 | 21,[.s (.agg (.op os)),.s (.agg (.op ts)),.s (.c (.f (.int .u32 h)))]=>some (.need [aS os,ay ts,aN h.den] (.ret (nE (dM os ts h.den) (aI ts h.den)) m))
 | 17,[.s (.agg (.op os)),.s (.agg (.op ts)),.s (.c (.f (.int .u32 h))),.s (.c (.f (.int .i64 t)))]=>some (.need [aS os,ay ts,aN h.den] (.ret (nE (cK os ts h.den t.den) (eM os ts h.den t.den)) m))
 | 18,[.s (.agg (.op os)),.s (.agg (.op ts)),.s (.c (.f (.int .u32 h))),.s (.c (.f (.int .i64 t)))]=>some (.need [aS os,ay ts,aN h.den] (.ret (L_ (cL os ts h.den t.den) (iG os ts h.den t.den) (eH os ts h.den t.den)) m))
 | 20,[.s (.agg (.ls [.f (.slice i (.l 0) n c1),.f (.slice j (.l 0) k' c2)])),.s (.agg (.op ws)),.s (.c (.f (.int .i64 h))),.s (.c (.f (.int .i64 t))),.s (.c (.f (.int .i64 k)))]=>(match aH m.bl i,aH m.bl j with
  | some ⟨.pop a,3,_⟩,some ⟨.pop b,111,_⟩=>some (.need [SW ts ws,ay ts,iT a n.den k'.den,b.size=n.den*10,k.den=1∨k.den=2∨k.den=3] (.br (decide (bQ ts h.den t.den k.den=0)) (.ret (Ch (cz a h.den n.den) m.next (m.next+1)) (lp m (eC a h.den n.den) (eD a b h.den n.den (gB k.den t.den)) 3 111)) (.ret (erS i j n.den (bQ ts h.den t.den k.den)) m)))
  | _,_=>none)
 | 20,[.s (.agg (.ls [.f (.lit (.slice none 0 0)),.f (.lit (.slice none 0 0))])),.s (.agg (.op ws)),.s (.c (.f (.int .i64 h))),.s (.c (.f (.int .i64 t))),.s (.c (.f (.int .i64 k)))]=>some (.need [SW ts ws,ay ts,k.den=1∨k.den=2∨k.den=3] (.br (decide (bQ ts h.den t.den k.den=0)) (.ret (Ch 1 m.next (m.next+1)) (lp m #[.int .i64 h.den] (gB k.den t.den) 3 111)) (.ret (enS (bQ ts h.den t.den k.den)) m)))
 | 22,[.s (.agg (.ls [.f (.slice i (.l 0) n c1),.f (.slice j (.l 0) k' c2)])),.s (.agg (.op ws)),.s (.c (.f (.int .i64 h))),.s (.c (.f (.int .i64 t))),.s (.c (.f (.bool y)))]=>(match aH m.bl i,aH m.bl j with
  | some ⟨.pop a,3,_⟩,some ⟨.pop b,111,_⟩=>some (.need [SW ts ws,ay ts,aS os,bZ os ts a b n.den k'.den] (.br (decide (cr os ts h.den t.den y.den=0)) (.ret (Nh (cz a h.den n.den) (h_ (fY (aR os ts h.den) t.den y.den) 8) m.next (m.next+1)) (lp m (eC a h.den n.den) (eD a b h.den n.den (bT (aW os ts h.den) (bt os ts h.den) (fY (aR os ts h.den) t.den y.den))) 3 111)) (.ret (er3 i j n.den (cr os ts h.den t.den y.den)) m)))
  | _,_=>none)
 | 22,[.s (.agg (.ls [.f (.lit (.slice none 0 0)),.f (.lit (.slice none 0 0))])),.s (.agg (.op ws)),.s (.c (.f (.int .i64 h))),.s (.c (.f (.int .i64 t))),.s (.c (.f (.bool y)))]=>some (.need [SW ts ws,ay ts,dP os ts] (.ret (en3 (cr os ts h.den t.den y.den)) m))
 | _,_=>none
noncomputable def EY (os ts:Array Value):Env:=⟨Tryz.prog,dg,KT os ts,dy []⟩
def yS (B:Nat) (o0:Array Value) (N:Nat) (a' b':Array Value) (s:SV) (m:aj):Prop:=match s with
 | .bW [.agg (.op o),.agg (.ls [.f x,.f y]),.c (.f (.bool e))]=>o=o0∧xB B N a' b' x y m∧e.den=true
 | _=>False
def Nt (n:Nat) (o0:Array Value) (s:SV) (m:aj):Prop:=match s with
 | .bW [.agg (.op o),.agg (.ls [.f (.slice 0 (.l 0) k _),.f (.slice 1 (.l 0) k' _)]),.c (.f (.bool e))]=>o=o0∧k.den=n∧k'.den=n∧e.den=true
 | _=>False
def Nu (o0:Array Value) (s:SV) (m:aj):Prop:=match s with
 | .bW [.agg (.op o),.agg (.ls [.f (.lit (.slice none 0 0)),.f (.lit (.slice none 0 0))]),.c (.f (.bool e))]=>o=o0∧e.den=true
 | _=>False
noncomputable def yV (ts ws os:Array Value) (n:Nat) (d a b c q:Int):List SV:=[bB ts,bg ws,cJ os,vS n,mW d a b c q]
noncomputable def yW (ts ws os:Array Value) (d a b c q:Int):List SV:=[bB ts,bg ws,cJ os,ff,mW d a b c q]
set_option maxRecDepth 100000
noncomputable def cq (ts:Array Value) (a:Int):Int:=IntKind.wrap .u32 (au ts a)
def xK (os:Array Value) (ts:Array Value) (a:Int):Prop:=aS os∧ay ts∧(0≤IntKind.wrap .u32 (au ts a)∧IntKind.wrap .u32 (au ts a)<4294967296)∧True
def AY (os:Array Value) (ts:Array Value) (a:Int) (q:Int):Prop:=(dG os ts (cq ts a) q).size=128∧(dG os ts (cq ts a) q).size=128∧True
def AZ (os:Array Value) (ts:Array Value) (a:Int) (q:Int):Prop:=(dH os ts (cq ts a) q).size=128∧(dH os ts (cq ts a) q).size=128∧True
def A0 (os:Array Value) (ts:Array Value) (a:Int) (q:Int):Prop:=(cK os ts (cq ts a) q).size=128∧(cK os ts (cq ts a) q).size=128∧True
def A1 (os:Array Value) (ts:Array Value) (a:Int) (q:Int):Prop:=(cL os ts (cq ts a) q).size=128∧(cL os ts (cq ts a) q).size=128∧True
def A2 (os:Array Value) (ts:Array Value) (a:Int):Prop:=(dM os ts (cq ts a)).size=128∧(dM os ts (cq ts a)).size=128∧True
def uH (os:Array Value) (ts:Array Value) (a:Int):Prop:=(dM os ts (cq ts a)).size=128∧True
def uI (os:Array Value) (ts:Array Value) (a:Int) (q:Int):Prop:=(dG os ts (cq ts a) q).size=128∧True
def uJ (os:Array Value) (ts:Array Value) (a:Int) (q:Int):Prop:=(dH os ts (cq ts a) q).size=128∧True
def uc (os:Array Value) (ts:Array Value) (a:Int) (q:Int):Prop:=(cK os ts (cq ts a) q).size=128∧True
def ud (os:Array Value) (ts:Array Value) (a:Int) (q:Int):Prop:=(cL os ts (cq ts a) q).size=128∧True
def JP (os:Array Value) (ts:Array Value) (ra:Array Value) (rb:Array Value) (n:Nat) (a:Int) (b:Int) (q:Int) (N:Nat) (a':Array Value) (b':Array Value):Prop:=true=true∧cz ra (au ts a) n=N∧cz ra (au ts a) n=N∧eC ra (au ts a) n=a'∧eD ra rb (au ts a) n (bT (aW os ts (au ts a)) (bt os ts (au ts a)) (fY (aR os ts (au ts a)) q false))=b'∧3=3∧111=111
def JQ (os:Array Value) (ts:Array Value) (ra:Array Value) (rb:Array Value) (n:Nat) (a:Int) (b:Int) (q:Int) (N:Nat) (a':Array Value) (b':Array Value):Prop:=true=true∧cz ra (au ts a) n=N∧cz ra (au ts a) n=N∧eC ra (au ts a) n=a'∧eD ra rb (au ts a) n (bT (aW os ts (au ts a)) (bt os ts (au ts a)) (fY (aR os ts (au ts a)) q true))=b'∧3=3∧111=111
theorem jyA (os ts ws ra rb:Array Value) (n:Nat) (d a b c q:Int) (o0:Array Value) (N:Nat) (a' b':Array Value):(run (EY os ts) 1000 2 [a_ 5 Tryz.f5.ntmps (yV ts ws os n d a b c q) (Tryz.f5.body.getD .skip)] (fM ra rb)).vc (yS 2 o0 N a' b') (fun _ _=>False) =
  ((ws.size=448∧True)∧(SW ts ws∧aM ts∧(0≤a∧a<4294967296)∧True)∧((d==10)=true→(os.size=128∧True)∧(ts.size=448∧True)∧(xK os ts a)∧((dG os ts (cq ts a) q).size=128∧(dG os ts (cq ts a) q).size=os.size∧True)∧(ws.size=448∧True)∧(SW ts ws∧ay ts∧iT ra n n∧rb.size=n*10∧((1:Int)=(1:Int)∨(1:Int)=(2:Int)∨(1:Int)=(3:Int))∧True)∧(decide (bQ ts (au ts a) q (1:Int)=(0:Int))=true→(uI os ts a q)∧(((b8 ts (cq ts a) q==0)==true)=true→(AY os ts a q)∧(uI os ts a q)∧dG os ts (cq ts a) q=o0∧(true=true∧cz ra (au ts a) n=N∧cz ra (au ts a) n=N∧eC ra (au ts a) n=a'∧eD ra rb (au ts a) n (gB (1:Int) q)=b'∧3=3∧111=111)∧true=true)∧(((b8 ts (cq ts a) q==0)==true)=false→(AY os ts a q)∧(uI os ts a q)∧dG os ts (cq ts a) q=o0∧(true=true∧cz ra (au ts a) n=N∧cz ra (au ts a) n=N∧eC ra (au ts a) n=a'∧eD ra rb (au ts a) n (gB (1:Int) q)=b'∧3=3∧111=111)∧false=true))∧(decide (bQ ts (au ts a) q (1:Int)=(0:Int))=false→(uI os ts a q)∧(((b8 ts (cq ts a) q==bQ ts (au ts a) q (1:Int))==true)=true→(AY os ts a q)∧(uI os ts a q)∧dG os ts (cq ts a) q=o0∧False∧true=true)∧(((b8 ts (cq ts a) q==bQ ts (au ts a) q (1:Int))==true)=false→(AY os ts a q)∧(uI os ts a q)∧dG os ts (cq ts a) q=o0∧False∧false=true)))∧((d==10)=false→((d==11)=true→(os.size=128∧True)∧(ts.size=448∧True)∧(xK os ts a)∧((dM os ts (cq ts a)).size=128∧(dM os ts (cq ts a)).size=os.size∧True)∧(ws.size=448∧True)∧(SW ts ws∧ay ts∧iT ra n n∧rb.size=n*10∧((2:Int)=(1:Int)∨(2:Int)=(2:Int)∨(2:Int)=(3:Int))∧True)∧(decide (bQ ts (au ts a) q (2:Int)=(0:Int))=true→(uH os ts a)∧(((aI ts (cq ts a)==0)==true)=true→(A2 os ts a)∧(uH os ts a)∧dM os ts (cq ts a)=o0∧(true=true∧cz ra (au ts a) n=N∧cz ra (au ts a) n=N∧eC ra (au ts a) n=a'∧eD ra rb (au ts a) n (gB (2:Int) q)=b'∧3=3∧111=111)∧true=true)∧(((aI ts (cq ts a)==0)==true)=false→(A2 os ts a)∧(uH os ts a)∧dM os ts (cq ts a)=o0∧(true=true∧cz ra (au ts a) n=N∧cz ra (au ts a) n=N∧eC ra (au ts a) n=a'∧eD ra rb (au ts a) n (gB (2:Int) q)=b'∧3=3∧111=111)∧false=true))∧(decide (bQ ts (au ts a) q (2:Int)=(0:Int))=false→(uH os ts a)∧(((aI ts (cq ts a)==bQ ts (au ts a) q (2:Int))==true)=true→(A2 os ts a)∧(uH os ts a)∧dM os ts (cq ts a)=o0∧False∧true=true)∧(((aI ts (cq ts a)==bQ ts (au ts a) q (2:Int))==true)=false→(A2 os ts a)∧(uH os ts a)∧dM os ts (cq ts a)=o0∧False∧false=true)))∧((d==11)=false→((d==12)=true→(os.size=128∧True)∧(ts.size=448∧True)∧(xK os ts a)∧((dH os ts (cq ts a) q).size=128∧(dH os ts (cq ts a) q).size=os.size∧True)∧(ws.size=448∧True)∧(SW ts ws∧ay ts∧iT ra n n∧rb.size=n*10∧((3:Int)=(1:Int)∨(3:Int)=(2:Int)∨(3:Int)=(3:Int))∧True)∧(decide (bQ ts (au ts a) q (3:Int)=(0:Int))=true→(uJ os ts a q)∧(((b8 ts (cq ts a) q==0)==true)=true→(AZ os ts a q)∧(uJ os ts a q)∧dH os ts (cq ts a) q=o0∧(true=true∧cz ra (au ts a) n=N∧cz ra (au ts a) n=N∧eC ra (au ts a) n=a'∧eD ra rb (au ts a) n (gB (3:Int) q)=b'∧3=3∧111=111)∧true=true)∧(((b8 ts (cq ts a) q==0)==true)=false→(AZ os ts a q)∧(uJ os ts a q)∧dH os ts (cq ts a) q=o0∧(true=true∧cz ra (au ts a) n=N∧cz ra (au ts a) n=N∧eC ra (au ts a) n=a'∧eD ra rb (au ts a) n (gB (3:Int) q)=b'∧3=3∧111=111)∧false=true))∧(decide (bQ ts (au ts a) q (3:Int)=(0:Int))=false→(uJ os ts a q)∧(((b8 ts (cq ts a) q==bQ ts (au ts a) q (3:Int))==true)=true→(AZ os ts a q)∧(uJ os ts a q)∧dH os ts (cq ts a) q=o0∧False∧true=true)∧(((b8 ts (cq ts a) q==bQ ts (au ts a) q (3:Int))==true)=false→(AZ os ts a q)∧(uJ os ts a q)∧dH os ts (cq ts a) q=o0∧False∧false=true)))∧((d==12)=false→((d==13)=true→(os.size=128∧True)∧(ts.size=448∧True)∧(xK os ts a)∧((cK os ts (cq ts a) q).size=128∧(cK os ts (cq ts a) q).size=os.size∧True)∧(ws.size=448∧True)∧(SW ts ws∧ay ts∧aS os∧bZ os ts ra rb n n∧True)∧(decide (cr os ts (au ts a) q true=(0:Int))=true→(uc os ts a q)∧(((eM os ts (cq ts a) q==0)==true)=true→(A0 os ts a q)∧(uc os ts a q)∧cK os ts (cq ts a) q=o0∧(JQ os ts ra rb n a b q N a' b')∧true=true)∧(((eM os ts (cq ts a) q==0)==true)=false→(A0 os ts a q)∧(uc os ts a q)∧cK os ts (cq ts a) q=o0∧(JQ os ts ra rb n a b q N a' b')∧false=true))∧(decide (cr os ts (au ts a) q true=(0:Int))=false→(uc os ts a q)∧(((eM os ts (cq ts a) q==cr os ts (au ts a) q true)==true)=true→(A0 os ts a q)∧(uc os ts a q)∧cK os ts (cq ts a) q=o0∧False∧true=true)∧(((eM os ts (cq ts a) q==cr os ts (au ts a) q true)==true)=false→(A0 os ts a q)∧(uc os ts a q)∧cK os ts (cq ts a) q=o0∧False∧false=true)))∧((d==13)=false→(os.size=128∧True)∧(ts.size=448∧True)∧(xK os ts a)∧((cL os ts (cq ts a) q).size=128∧(cL os ts (cq ts a) q).size=os.size∧True)∧(ws.size=448∧True)∧(SW ts ws∧ay ts∧aS os∧bZ os ts ra rb n n∧True)∧(decide (cr os ts (au ts a) q false=(0:Int))=true→(ud os ts a q)∧(((eH os ts (cq ts a) q==0)==true)=true→(A1 os ts a q)∧(ud os ts a q)∧cL os ts (cq ts a) q=o0∧(JP os ts ra rb n a b q N a' b')∧(iG os ts (cq ts a) q==h_ (fY (aR os ts (au ts a)) q false) (8:Nat))=true)∧(((eH os ts (cq ts a) q==0)==true)=false→(A1 os ts a q)∧(ud os ts a q)∧cL os ts (cq ts a) q=o0∧(JP os ts ra rb n a b q N a' b')∧false=true))∧(decide (cr os ts (au ts a) q false=(0:Int))=false→(ud os ts a q)∧(((eH os ts (cq ts a) q==cr os ts (au ts a) q false)==true)=true→(A1 os ts a q)∧(ud os ts a q)∧cL os ts (cq ts a) q=o0∧False∧(iG os ts (cq ts a) q==0)=true)∧(((eH os ts (cq ts a) q==cr os ts (au ts a) q false)==true)=false→(A1 os ts a q)∧(ud os ts a q)∧cL os ts (cq ts a) q=o0∧False∧false=true))))))):=by kernel_rfl
noncomputable def cX (ts:Array Value) (a:Int):Int:=IntKind.wrap .u32 (au ts a)
def xL (os:Array Value) (ts:Array Value) (a:Int):Prop:=aS os∧ay ts∧(0≤IntKind.wrap .u32 (au ts a)∧IntKind.wrap .u32 (au ts a)<4294967296)∧True
def A3 (os:Array Value) (ts:Array Value) (a:Int) (q:Int):Prop:=(dG os ts (cX ts a) q).size=128∧(dG os ts (cX ts a) q).size=128∧True
def A4 (os:Array Value) (ts:Array Value) (a:Int) (q:Int):Prop:=(dH os ts (cX ts a) q).size=128∧(dH os ts (cX ts a) q).size=128∧True
def A5 (os:Array Value) (ts:Array Value) (a:Int) (q:Int):Prop:=(cK os ts (cX ts a) q).size=128∧(cK os ts (cX ts a) q).size=128∧True
def A6 (os:Array Value) (ts:Array Value) (a:Int) (q:Int):Prop:=(cL os ts (cX ts a) q).size=128∧(cL os ts (cX ts a) q).size=128∧True
def A7 (os:Array Value) (ts:Array Value) (a:Int):Prop:=(dM os ts (cX ts a)).size=128∧(dM os ts (cX ts a)).size=128∧True
def uK (os:Array Value) (ts:Array Value) (a:Int):Prop:=(dM os ts (cX ts a)).size=128∧True
def uL (os:Array Value) (ts:Array Value) (a:Int) (q:Int):Prop:=(dG os ts (cX ts a) q).size=128∧True
def uM (os:Array Value) (ts:Array Value) (a:Int) (q:Int):Prop:=(dH os ts (cX ts a) q).size=128∧True
def ue (os:Array Value) (ts:Array Value) (a:Int) (q:Int):Prop:=(cK os ts (cX ts a) q).size=128∧True
def uf (os:Array Value) (ts:Array Value) (a:Int) (q:Int):Prop:=(cL os ts (cX ts a) q).size=128∧True
theorem jyB (os ts ws ra rb:Array Value) (n:Nat) (d a b c q:Int) (o0:Array Value):(run (EY os ts) 1000 2 [a_ 5 Tryz.f5.ntmps (yV ts ws os n d a b c q) (Tryz.f5.body.getD .skip)] (fM ra rb)).vc (Nt n o0) (fun _ _=>False) =
  ((ws.size=448∧True)∧(SW ts ws∧aM ts∧(0≤a∧a<4294967296)∧True)∧((d==10)=true→(os.size=128∧True)∧(ts.size=448∧True)∧(xL os ts a)∧((dG os ts (cX ts a) q).size=128∧(dG os ts (cX ts a) q).size=os.size∧True)∧(ws.size=448∧True)∧(SW ts ws∧ay ts∧iT ra n n∧rb.size=n*10∧((1:Int)=(1:Int)∨(1:Int)=(2:Int)∨(1:Int)=(3:Int))∧True)∧(decide (bQ ts (au ts a) q (1:Int)=(0:Int))=true→(uL os ts a q)∧(((b8 ts (cX ts a) q==0)==true)=true→(A3 os ts a q)∧(uL os ts a q)∧False)∧(((b8 ts (cX ts a) q==0)==true)=false→(A3 os ts a q)∧(uL os ts a q)∧False))∧(decide (bQ ts (au ts a) q (1:Int)=(0:Int))=false→(uL os ts a q)∧(((b8 ts (cX ts a) q==bQ ts (au ts a) q (1:Int))==true)=true→(A3 os ts a q)∧(uL os ts a q)∧dG os ts (cX ts a) q=o0∧n=n∧n=n∧true=true)∧(((b8 ts (cX ts a) q==bQ ts (au ts a) q (1:Int))==true)=false→(A3 os ts a q)∧(uL os ts a q)∧dG os ts (cX ts a) q=o0∧n=n∧n=n∧false=true)))∧((d==10)=false→((d==11)=true→(os.size=128∧True)∧(ts.size=448∧True)∧(xL os ts a)∧((dM os ts (cX ts a)).size=128∧(dM os ts (cX ts a)).size=os.size∧True)∧(ws.size=448∧True)∧(SW ts ws∧ay ts∧iT ra n n∧rb.size=n*10∧((2:Int)=(1:Int)∨(2:Int)=(2:Int)∨(2:Int)=(3:Int))∧True)∧(decide (bQ ts (au ts a) q (2:Int)=(0:Int))=true→(uK os ts a)∧(((aI ts (cX ts a)==0)==true)=true→(A7 os ts a)∧(uK os ts a)∧False)∧(((aI ts (cX ts a)==0)==true)=false→(A7 os ts a)∧(uK os ts a)∧False))∧(decide (bQ ts (au ts a) q (2:Int)=(0:Int))=false→(uK os ts a)∧(((aI ts (cX ts a)==bQ ts (au ts a) q (2:Int))==true)=true→(A7 os ts a)∧(uK os ts a)∧dM os ts (cX ts a)=o0∧n=n∧n=n∧true=true)∧(((aI ts (cX ts a)==bQ ts (au ts a) q (2:Int))==true)=false→(A7 os ts a)∧(uK os ts a)∧dM os ts (cX ts a)=o0∧n=n∧n=n∧false=true)))∧((d==11)=false→((d==12)=true→(os.size=128∧True)∧(ts.size=448∧True)∧(xL os ts a)∧((dH os ts (cX ts a) q).size=128∧(dH os ts (cX ts a) q).size=os.size∧True)∧(ws.size=448∧True)∧(SW ts ws∧ay ts∧iT ra n n∧rb.size=n*10∧((3:Int)=(1:Int)∨(3:Int)=(2:Int)∨(3:Int)=(3:Int))∧True)∧(decide (bQ ts (au ts a) q (3:Int)=(0:Int))=true→(uM os ts a q)∧(((b8 ts (cX ts a) q==0)==true)=true→(A4 os ts a q)∧(uM os ts a q)∧False)∧(((b8 ts (cX ts a) q==0)==true)=false→(A4 os ts a q)∧(uM os ts a q)∧False))∧(decide (bQ ts (au ts a) q (3:Int)=(0:Int))=false→(uM os ts a q)∧(((b8 ts (cX ts a) q==bQ ts (au ts a) q (3:Int))==true)=true→(A4 os ts a q)∧(uM os ts a q)∧dH os ts (cX ts a) q=o0∧n=n∧n=n∧true=true)∧(((b8 ts (cX ts a) q==bQ ts (au ts a) q (3:Int))==true)=false→(A4 os ts a q)∧(uM os ts a q)∧dH os ts (cX ts a) q=o0∧n=n∧n=n∧false=true)))∧((d==12)=false→((d==13)=true→(os.size=128∧True)∧(ts.size=448∧True)∧(xL os ts a)∧((cK os ts (cX ts a) q).size=128∧(cK os ts (cX ts a) q).size=os.size∧True)∧(ws.size=448∧True)∧(SW ts ws∧ay ts∧aS os∧bZ os ts ra rb n n∧True)∧(decide (cr os ts (au ts a) q true=(0:Int))=true→(ue os ts a q)∧(((eM os ts (cX ts a) q==0)==true)=true→(A5 os ts a q)∧(ue os ts a q)∧False)∧(((eM os ts (cX ts a) q==0)==true)=false→(A5 os ts a q)∧(ue os ts a q)∧False))∧(decide (cr os ts (au ts a) q true=(0:Int))=false→(ue os ts a q)∧(((eM os ts (cX ts a) q==cr os ts (au ts a) q true)==true)=true→(A5 os ts a q)∧(ue os ts a q)∧cK os ts (cX ts a) q=o0∧n=n∧n=n∧true=true)∧(((eM os ts (cX ts a) q==cr os ts (au ts a) q true)==true)=false→(A5 os ts a q)∧(ue os ts a q)∧cK os ts (cX ts a) q=o0∧n=n∧n=n∧false=true)))∧((d==13)=false→(os.size=128∧True)∧(ts.size=448∧True)∧(xL os ts a)∧((cL os ts (cX ts a) q).size=128∧(cL os ts (cX ts a) q).size=os.size∧True)∧(ws.size=448∧True)∧(SW ts ws∧ay ts∧aS os∧bZ os ts ra rb n n∧True)∧(decide (cr os ts (au ts a) q false=(0:Int))=true→(uf os ts a q)∧(((eH os ts (cX ts a) q==0)==true)=true→(A6 os ts a q)∧(uf os ts a q)∧False)∧(((eH os ts (cX ts a) q==0)==true)=false→(A6 os ts a q)∧(uf os ts a q)∧False))∧(decide (cr os ts (au ts a) q false=(0:Int))=false→(uf os ts a q)∧(((eH os ts (cX ts a) q==cr os ts (au ts a) q false)==true)=true→(A6 os ts a q)∧(uf os ts a q)∧cL os ts (cX ts a) q=o0∧n=n∧n=n∧(iG os ts (cX ts a) q==0)=true)∧(((eH os ts (cX ts a) q==cr os ts (au ts a) q false)==true)=false→(A6 os ts a q)∧(uf os ts a q)∧cL os ts (cX ts a) q=o0∧n=n∧n=n∧false=true))))))):=by kernel_rfl
noncomputable def cx (ts:Array Value) (a:Int):Int:=IntKind.wrap .u32 (au ts a)
def xM (os:Array Value) (ts:Array Value) (a:Int):Prop:=aS os∧ay ts∧(0≤IntKind.wrap .u32 (au ts a)∧IntKind.wrap .u32 (au ts a)<4294967296)∧True
def A8 (os:Array Value) (ts:Array Value) (a:Int) (q:Int):Prop:=(dG os ts (cx ts a) q).size=128∧(dG os ts (cx ts a) q).size=128∧True
def A9 (os:Array Value) (ts:Array Value) (a:Int) (q:Int):Prop:=(dH os ts (cx ts a) q).size=128∧(dH os ts (cx ts a) q).size=128∧True
def A_ (os:Array Value) (ts:Array Value) (a:Int):Prop:=(dM os ts (cx ts a)).size=128∧(dM os ts (cx ts a)).size=128∧True
def uN (os:Array Value) (ts:Array Value) (a:Int):Prop:=(dM os ts (cx ts a)).size=128∧True
def uO (os:Array Value) (ts:Array Value) (a:Int) (q:Int):Prop:=(dG os ts (cx ts a) q).size=128∧True
def uP (os:Array Value) (ts:Array Value) (a:Int) (q:Int):Prop:=(dH os ts (cx ts a) q).size=128∧True
theorem yz0 (os ts ws:Array Value) (d a b c q:Int) (o0:Array Value) (N:Nat) (a' b':Array Value):(run (EY os ts) 1000 2 [a_ 5 Tryz.f5.ntmps (yW ts ws os d a b c q) (Tryz.f5.body.getD .skip)] mg).vc (yS 2 o0 N a' b') (fun _ _=>False) =
  ((ws.size=448∧True)∧(SW ts ws∧aM ts∧(0≤a∧a<4294967296)∧True)∧((d==10)=true→(os.size=128∧True)∧(ts.size=448∧True)∧(xM os ts a)∧((dG os ts (cx ts a) q).size=128∧(dG os ts (cx ts a) q).size=os.size∧True)∧(ws.size=448∧True)∧(SW ts ws∧ay ts∧((1:Int)=(1:Int)∨(1:Int)=(2:Int)∨(1:Int)=(3:Int))∧True)∧(decide (bQ ts (au ts a) q (1:Int)=(0:Int))=true→(uO os ts a q)∧(((b8 ts (cx ts a) q==0)==true)=true→(A8 os ts a q)∧(uO os ts a q)∧dG os ts (cx ts a) q=o0∧(true=true∧(1:Nat)=N∧(1:Nat)=N∧#[Value.int .i64 (au ts a)]=a'∧gB (1:Int) q=b'∧3=3∧111=111)∧true=true)∧(((b8 ts (cx ts a) q==0)==true)=false→(A8 os ts a q)∧(uO os ts a q)∧dG os ts (cx ts a) q=o0∧(true=true∧(1:Nat)=N∧(1:Nat)=N∧#[Value.int .i64 (au ts a)]=a'∧gB (1:Int) q=b'∧3=3∧111=111)∧false=true))∧(decide (bQ ts (au ts a) q (1:Int)=(0:Int))=false→(uO os ts a q)∧(((b8 ts (cx ts a) q==bQ ts (au ts a) q (1:Int))==true)=true→(A8 os ts a q)∧(uO os ts a q)∧dG os ts (cx ts a) q=o0∧False∧true=true)∧(((b8 ts (cx ts a) q==bQ ts (au ts a) q (1:Int))==true)=false→(A8 os ts a q)∧(uO os ts a q)∧dG os ts (cx ts a) q=o0∧False∧false=true)))∧((d==10)=false→((d==11)=true→(os.size=128∧True)∧(ts.size=448∧True)∧(xM os ts a)∧((dM os ts (cx ts a)).size=128∧(dM os ts (cx ts a)).size=os.size∧True)∧(ws.size=448∧True)∧(SW ts ws∧ay ts∧((2:Int)=(1:Int)∨(2:Int)=(2:Int)∨(2:Int)=(3:Int))∧True)∧(decide (bQ ts (au ts a) q (2:Int)=(0:Int))=true→(uN os ts a)∧(((aI ts (cx ts a)==0)==true)=true→(A_ os ts a)∧(uN os ts a)∧dM os ts (cx ts a)=o0∧(true=true∧(1:Nat)=N∧(1:Nat)=N∧#[Value.int .i64 (au ts a)]=a'∧gB (2:Int) q=b'∧3=3∧111=111)∧true=true)∧(((aI ts (cx ts a)==0)==true)=false→(A_ os ts a)∧(uN os ts a)∧dM os ts (cx ts a)=o0∧(true=true∧(1:Nat)=N∧(1:Nat)=N∧#[Value.int .i64 (au ts a)]=a'∧gB (2:Int) q=b'∧3=3∧111=111)∧false=true))∧(decide (bQ ts (au ts a) q (2:Int)=(0:Int))=false→(uN os ts a)∧(((aI ts (cx ts a)==bQ ts (au ts a) q (2:Int))==true)=true→(A_ os ts a)∧(uN os ts a)∧dM os ts (cx ts a)=o0∧False∧true=true)∧(((aI ts (cx ts a)==bQ ts (au ts a) q (2:Int))==true)=false→(A_ os ts a)∧(uN os ts a)∧dM os ts (cx ts a)=o0∧False∧false=true)))∧((d==11)=false→((d==12)=true→(os.size=128∧True)∧(ts.size=448∧True)∧(xM os ts a)∧((dH os ts (cx ts a) q).size=128∧(dH os ts (cx ts a) q).size=os.size∧True)∧(ws.size=448∧True)∧(SW ts ws∧ay ts∧((3:Int)=(1:Int)∨(3:Int)=(2:Int)∨(3:Int)=(3:Int))∧True)∧(decide (bQ ts (au ts a) q (3:Int)=(0:Int))=true→(uP os ts a q)∧(((b8 ts (cx ts a) q==0)==true)=true→(A9 os ts a q)∧(uP os ts a q)∧dH os ts (cx ts a) q=o0∧(true=true∧(1:Nat)=N∧(1:Nat)=N∧#[Value.int .i64 (au ts a)]=a'∧gB (3:Int) q=b'∧3=3∧111=111)∧true=true)∧(((b8 ts (cx ts a) q==0)==true)=false→(A9 os ts a q)∧(uP os ts a q)∧dH os ts (cx ts a) q=o0∧(true=true∧(1:Nat)=N∧(1:Nat)=N∧#[Value.int .i64 (au ts a)]=a'∧gB (3:Int) q=b'∧3=3∧111=111)∧false=true))∧(decide (bQ ts (au ts a) q (3:Int)=(0:Int))=false→(uP os ts a q)∧(((b8 ts (cx ts a) q==bQ ts (au ts a) q (3:Int))==true)=true→(A9 os ts a q)∧(uP os ts a q)∧dH os ts (cx ts a) q=o0∧False∧true=true)∧(((b8 ts (cx ts a) q==bQ ts (au ts a) q (3:Int))==true)=false→(A9 os ts a q)∧(uP os ts a q)∧dH os ts (cx ts a) q=o0∧False∧false=true)))∧((d==12)=false→((d==13)=true→(os.size=128∧True)∧(ts.size=448∧True)∧(xM os ts a)∧((cK os ts (cx ts a) q).size=128∧(cK os ts (cx ts a) q).size=os.size∧True)∧(ws.size=448∧True)∧(SW ts ws∧ay ts∧dP os ts∧True)∧((cK os ts (cx ts a) q).size=128∧True)∧(((eM os ts (cx ts a) q==cr os ts (au ts a) q true)==true)=true→((cK os ts (cx ts a) q).size=128∧(cK os ts (cx ts a) q).size=128∧True)∧((cK os ts (cx ts a) q).size=128∧True)∧cK os ts (cx ts a) q=o0∧False∧true=true)∧(((eM os ts (cx ts a) q==cr os ts (au ts a) q true)==true)=false→((cK os ts (cx ts a) q).size=128∧(cK os ts (cx ts a) q).size=128∧True)∧((cK os ts (cx ts a) q).size=128∧True)∧cK os ts (cx ts a) q=o0∧False∧false=true))∧((d==13)=false→(os.size=128∧True)∧(ts.size=448∧True)∧(xM os ts a)∧((cL os ts (cx ts a) q).size=128∧(cL os ts (cx ts a) q).size=os.size∧True)∧(ws.size=448∧True)∧(SW ts ws∧ay ts∧dP os ts∧True)∧((cL os ts (cx ts a) q).size=128∧True)∧(((eH os ts (cx ts a) q==cr os ts (au ts a) q false)==true)=true→((cL os ts (cx ts a) q).size=128∧(cL os ts (cx ts a) q).size=128∧True)∧((cL os ts (cx ts a) q).size=128∧True)∧cL os ts (cx ts a) q=o0∧False∧(iG os ts (cx ts a) q==0)=true)∧(((eH os ts (cx ts a) q==cr os ts (au ts a) q false)==true)=false→((cL os ts (cx ts a) q).size=128∧(cL os ts (cx ts a) q).size=128∧True)∧((cL os ts (cx ts a) q).size=128∧True)∧cL os ts (cx ts a) q=o0∧False∧false=true)))))):=by kernel_rfl
noncomputable def cE (ts:Array Value) (a:Int):Int:=IntKind.wrap .u32 (au ts a)
def xN (os:Array Value) (ts:Array Value) (a:Int):Prop:=aS os∧ay ts∧(0≤IntKind.wrap .u32 (au ts a)∧IntKind.wrap .u32 (au ts a)<4294967296)∧True
def Ba (os:Array Value) (ts:Array Value) (a:Int) (q:Int):Prop:=(dG os ts (cE ts a) q).size=128∧(dG os ts (cE ts a) q).size=128∧True
def Bb (os:Array Value) (ts:Array Value) (a:Int) (q:Int):Prop:=(dH os ts (cE ts a) q).size=128∧(dH os ts (cE ts a) q).size=128∧True
def Bc (os:Array Value) (ts:Array Value) (a:Int):Prop:=(dM os ts (cE ts a)).size=128∧(dM os ts (cE ts a)).size=128∧True
def uQ (os:Array Value) (ts:Array Value) (a:Int):Prop:=(dM os ts (cE ts a)).size=128∧True
def uR (os:Array Value) (ts:Array Value) (a:Int) (q:Int):Prop:=(dG os ts (cE ts a) q).size=128∧True
def uS (os:Array Value) (ts:Array Value) (a:Int) (q:Int):Prop:=(dH os ts (cE ts a) q).size=128∧True
theorem yz1 (os ts ws:Array Value) (d a b c q:Int) (o0:Array Value):(run (EY os ts) 1000 2 [a_ 5 Tryz.f5.ntmps (yW ts ws os d a b c q) (Tryz.f5.body.getD .skip)] mg).vc (Nu o0) (fun _ _=>False) =
  ((ws.size=448∧True)∧(SW ts ws∧aM ts∧(0≤a∧a<4294967296)∧True)∧((d==10)=true→(os.size=128∧True)∧(ts.size=448∧True)∧(xN os ts a)∧((dG os ts (cE ts a) q).size=128∧(dG os ts (cE ts a) q).size=os.size∧True)∧(ws.size=448∧True)∧(SW ts ws∧ay ts∧((1:Int)=(1:Int)∨(1:Int)=(2:Int)∨(1:Int)=(3:Int))∧True)∧(decide (bQ ts (au ts a) q (1:Int)=(0:Int))=true→(uR os ts a q)∧(((b8 ts (cE ts a) q==0)==true)=true→(Ba os ts a q)∧(uR os ts a q)∧False)∧(((b8 ts (cE ts a) q==0)==true)=false→(Ba os ts a q)∧(uR os ts a q)∧False))∧(decide (bQ ts (au ts a) q (1:Int)=(0:Int))=false→(uR os ts a q)∧(((b8 ts (cE ts a) q==bQ ts (au ts a) q (1:Int))==true)=true→(Ba os ts a q)∧(uR os ts a q)∧dG os ts (cE ts a) q=o0∧true=true)∧(((b8 ts (cE ts a) q==bQ ts (au ts a) q (1:Int))==true)=false→(Ba os ts a q)∧(uR os ts a q)∧dG os ts (cE ts a) q=o0∧false=true)))∧((d==10)=false→((d==11)=true→(os.size=128∧True)∧(ts.size=448∧True)∧(xN os ts a)∧((dM os ts (cE ts a)).size=128∧(dM os ts (cE ts a)).size=os.size∧True)∧(ws.size=448∧True)∧(SW ts ws∧ay ts∧((2:Int)=(1:Int)∨(2:Int)=(2:Int)∨(2:Int)=(3:Int))∧True)∧(decide (bQ ts (au ts a) q (2:Int)=(0:Int))=true→(uQ os ts a)∧(((aI ts (cE ts a)==0)==true)=true→(Bc os ts a)∧(uQ os ts a)∧False)∧(((aI ts (cE ts a)==0)==true)=false→(Bc os ts a)∧(uQ os ts a)∧False))∧(decide (bQ ts (au ts a) q (2:Int)=(0:Int))=false→(uQ os ts a)∧(((aI ts (cE ts a)==bQ ts (au ts a) q (2:Int))==true)=true→(Bc os ts a)∧(uQ os ts a)∧dM os ts (cE ts a)=o0∧true=true)∧(((aI ts (cE ts a)==bQ ts (au ts a) q (2:Int))==true)=false→(Bc os ts a)∧(uQ os ts a)∧dM os ts (cE ts a)=o0∧false=true)))∧((d==11)=false→((d==12)=true→(os.size=128∧True)∧(ts.size=448∧True)∧(xN os ts a)∧((dH os ts (cE ts a) q).size=128∧(dH os ts (cE ts a) q).size=os.size∧True)∧(ws.size=448∧True)∧(SW ts ws∧ay ts∧((3:Int)=(1:Int)∨(3:Int)=(2:Int)∨(3:Int)=(3:Int))∧True)∧(decide (bQ ts (au ts a) q (3:Int)=(0:Int))=true→(uS os ts a q)∧(((b8 ts (cE ts a) q==0)==true)=true→(Bb os ts a q)∧(uS os ts a q)∧False)∧(((b8 ts (cE ts a) q==0)==true)=false→(Bb os ts a q)∧(uS os ts a q)∧False))∧(decide (bQ ts (au ts a) q (3:Int)=(0:Int))=false→(uS os ts a q)∧(((b8 ts (cE ts a) q==bQ ts (au ts a) q (3:Int))==true)=true→(Bb os ts a q)∧(uS os ts a q)∧dH os ts (cE ts a) q=o0∧true=true)∧(((b8 ts (cE ts a) q==bQ ts (au ts a) q (3:Int))==true)=false→(Bb os ts a q)∧(uS os ts a q)∧dH os ts (cE ts a) q=o0∧false=true)))∧((d==12)=false→((d==13)=true→(os.size=128∧True)∧(ts.size=448∧True)∧(xN os ts a)∧((cK os ts (cE ts a) q).size=128∧(cK os ts (cE ts a) q).size=os.size∧True)∧(ws.size=448∧True)∧(SW ts ws∧ay ts∧dP os ts∧True)∧((cK os ts (cE ts a) q).size=128∧True)∧(((eM os ts (cE ts a) q==cr os ts (au ts a) q true)==true)=true→((cK os ts (cE ts a) q).size=128∧(cK os ts (cE ts a) q).size=128∧True)∧((cK os ts (cE ts a) q).size=128∧True)∧cK os ts (cE ts a) q=o0∧true=true)∧(((eM os ts (cE ts a) q==cr os ts (au ts a) q true)==true)=false→((cK os ts (cE ts a) q).size=128∧(cK os ts (cE ts a) q).size=128∧True)∧((cK os ts (cE ts a) q).size=128∧True)∧cK os ts (cE ts a) q=o0∧false=true))∧((d==13)=false→(os.size=128∧True)∧(ts.size=448∧True)∧(xN os ts a)∧((cL os ts (cE ts a) q).size=128∧(cL os ts (cE ts a) q).size=os.size∧True)∧(ws.size=448∧True)∧(SW ts ws∧ay ts∧dP os ts∧True)∧((cL os ts (cE ts a) q).size=128∧True)∧(((eH os ts (cE ts a) q==cr os ts (au ts a) q false)==true)=true→((cL os ts (cE ts a) q).size=128∧(cL os ts (cE ts a) q).size=128∧True)∧((cL os ts (cE ts a) q).size=128∧True)∧cL os ts (cE ts a) q=o0∧(iG os ts (cE ts a) q==0)=true)∧(((eH os ts (cE ts a) q==cr os ts (au ts a) q false)==true)=false→((cL os ts (cE ts a) q).size=128∧(cL os ts (cE ts a) q).size=128∧True)∧((cL os ts (cE ts a) q).size=128∧True)∧cL os ts (cE ts a) q=o0∧false=true)))))):=by kernel_rfl
set_option linter.unusedVariables false
theorem Tc {ts:Array Value} {h t k:Int} (hk:k=1∨k=2∨k=3) (e:bQ ts h t k=0):BJ ts h t k:=by
 unfold bQ at e
 split at e
 ·rename_i c
  refine ⟨hk,c,fun k2=>?_⟩
  split at e
  ·exact absurd e (by decide)
  ·rename_i d
   have:¬ (t<0∨7<t):=fun q=>d ⟨k2,q⟩
   omega
 ·rename_i c;exact absurd e c
theorem Ye (os ts:Array Value):∀ g l m t,KT os ts g l m=some t→aq E0 g l m t:=by
 intro g l m t h
 unfold KT at h
 split at h
 ·rename_i ws n;cases h
  exact aq.n1 (Zu n.den m)
 ·rename_i os ts h t;cases h
  refine aq.asked fun hq=>aq.args (l':=[cJ os,bB ts,u32 h.den,i64 (.o t.den)]) (fun R vs ha=>by
   match vs,ha with
   | [v,w,z,y],ha=>exact ⟨ha.1,ha.2.1,ha.2.2.1,ha.2.2.2.1,trivial⟩) ?_
  intro A hs
  exact Yf h.den t.den m A ⟨fun p hp=>hq p hp,hs⟩
 ·rename_i os ts h t;cases h
  refine aq.asked fun hq=>aq.args (l':=[cJ os,bB ts,u32 h.den,i64 (.o t.den)]) (fun R vs ha=>by
   match vs,ha with
   | [v,w,z,y],ha=>exact ⟨ha.1,ha.2.1,ha.2.2.1,ha.2.2.2.1,trivial⟩) ?_
  intro A hs
  exact Wn h.den t.den m A ⟨fun p hp=>hq p hp,hs⟩
 ·rename_i os ts h;cases h
  refine aq.asked fun hq=>aq.args (l':=[cJ os,bB ts,u32 h.den]) (fun R vs ha=>by
   match vs,ha with
   | [v,w,z],ha=>exact ⟨ha.1,ha.2.1,ha.2.2.1,trivial⟩) ?_
  intro A hs
  exact Zv h.den m A ⟨fun p hp=>hq p hp,hs⟩
 ·rename_i os ts h t;cases h
  refine aq.asked fun hq=>aq.args (l':=[cJ os,bB ts,u32 h.den,i64 (.o t.den)]) (fun R vs ha=>by
   match vs,ha with
   | [v,w,z,y],ha=>exact ⟨ha.1,ha.2.1,ha.2.2.1,ha.2.2.2.1,trivial⟩) ?_
  intro A hs
  exact W0 h.den t.den m A ⟨fun p hp=>hq p hp,hs⟩
 ·rename_i os ts h t;cases h
  refine aq.asked fun hq=>aq.args (l':=[cJ os,bB ts,u32 h.den,i64 (.o t.den)]) (fun R vs ha=>by
   match vs,ha with
   | [v,w,z,y],ha=>exact ⟨ha.1,ha.2.1,ha.2.2.1,ha.2.2.2.1,trivial⟩) ?_
  intro A hs
  exact W3 h.den t.den m A ⟨fun p hp=>hq p hp,hs⟩
 ·rename_i i n c1 j k' c2 ws h t k
  split at h
  ·rename_i a w1 b w2 h1 h2;cases h
   refine aq.asked fun hq=>?_
   have q1:SW ts ws:=hq _ (by simp)
   have q2:ay ts:=hq _ (by simp)
   have q3:iT a n.den k'.den:=hq _ (by simp)
   have q4:b.size=n.den*10:=hq _ (by simp)
   have q5:k.den=1∨k.den=2∨k.den=3:=hq _ (by simp)
   refine aq.args (l':=[.s (.agg (.ls [.f (.slice i (.l 0) n c1),.f (.slice j (.l 0) k' c2)])),bg ws,i64 (.o h.den),i64 (.o t.den),i64 (.o k.den)]) (fun R vs ha=>by
    match vs,ha with
    | [u,v,x,y,z],ha=>exact ⟨ha.1,ha.2.1,ha.2.2.1,ha.2.2.2.1,ha.2.2.2.2.1,trivial⟩) ?_
   refine aq.two (fun hz=>?_) (fun hz=>?_)
   ·intro A hs
    refine X6 (ts:=ts) (h:=h.den) (t:=t.den) (k:=k.den) h1 h2 A ⟨?_,hs⟩
    rintro p hp
    simp only [List.mem_cons,List.not_mem_nil,or_false] at hp
    rcases hp with rfl | rfl | rfl | rfl | rfl
    ·exact q1
    ·exact q2
    ·exact q3
    ·exact q4
    ·exact Tc q5 (of_decide_eq_true hz)
   ·intro A hs
    refine X8 (ts:=ts) (h:=h.den) (t:=t.den) (k:=k.den) h1 h2 A ⟨?_,hs⟩
    rintro p hp
    simp only [List.mem_cons,List.not_mem_nil,or_false] at hp
    rcases hp with rfl | rfl | rfl | rfl
    ·exact q1
    ·exact q2
    ·obtain ⟨l,_,e1,e2,_⟩:=q3
     exact e1.trans e2.symm
    ·exact of_decide_eq_false hz
  ·cases h
 ·rename_i ws h t k;cases h
  refine aq.asked fun hq=>?_
  have q1:SW ts ws:=hq _ (by simp)
  have q2:ay ts:=hq _ (by simp)
  have q5:k.den=1∨k.den=2∨k.den=3:=hq _ (by simp)
  refine aq.args (l':=[ff,bg ws,i64 (.o h.den),i64 (.o t.den),i64 (.o k.den)]) (fun R vs ha=>by
   match vs,ha with
   | [u,v,x,y,z],ha=>exact ⟨ha.1,ha.2.1,ha.2.2.1,ha.2.2.2.1,ha.2.2.2.2.1,trivial⟩) ?_
  refine aq.two (fun hz=>?_) (fun hz=>?_)
  ·intro A hs
   refine X7 (ts:=ts) (h:=h.den) (t:=t.den) (k:=k.den) m A ⟨?_,hs⟩
   rintro p hp
   simp only [List.mem_cons,List.not_mem_nil,or_false] at hp
   rcases hp with rfl | rfl | rfl
   ·exact q1
   ·exact q2
   ·exact Tc q5 (of_decide_eq_true hz)
  ·intro A hs
   refine X9 (ts:=ts) (h:=h.den) (t:=t.den) (k:=k.den) m A ⟨?_,hs⟩
   rintro p hp
   simp only [List.mem_cons,List.not_mem_nil,or_false] at hp
   rcases hp with rfl | rfl | rfl
   ·exact q1
   ·exact q2
   ·exact of_decide_eq_false hz
 ·rename_i i n c1 j k' c2 ws h t y
  split at h
  ·rename_i a w1 b w2 h1 h2;cases h
   refine aq.asked fun hq=>?_
   have q1:SW ts ws:=hq _ (by simp)
   have q2:ay ts:=hq _ (by simp)
   have q3:aS os:=hq _ (by simp)
   have q4:bZ os ts a b n.den k'.den:=hq _ (by simp)
   refine aq.args (l':=[.s (.agg (.ls [.f (.slice i (.l 0) n c1),.f (.slice j (.l 0) k' c2)])),bg ws,i64 (.o h.den),i64 (.o t.den),sB (.o y.den)]) (fun R vs ha=>by
    match vs,ha with
    | [u,v,x,y,z],ha=>exact ⟨ha.1,ha.2.1,ha.2.2.1,ha.2.2.2.1,ha.2.2.2.2.1,trivial⟩) ?_
   refine aq.two (fun hz=>?_) (fun hz=>?_)
   ·intro A hs
    refine WR (os:=os) (ts:=ts) (h:=h.den) (t:=t.den) (y:=y.den) h1 h2 A ⟨?_,hs⟩
    rintro p hp
    simp only [List.mem_cons,List.not_mem_nil,or_false] at hp
    rcases hp with rfl | rfl | rfl | rfl | rfl
    ·exact q1
    ·exact q2
    ·exact q4
    ·exact (AX q3 h.den).2.2
    ·exact of_decide_eq_true hz
   ·intro A hs
    refine WS (os:=os) (ts:=ts) (h:=h.den) (t:=t.den) (y:=y.den) h1 h2 A ⟨?_,hs⟩
    rintro p hp
    simp only [List.mem_cons,List.not_mem_nil,or_false] at hp
    rcases hp with rfl | rfl | rfl | rfl
    ·exact q1
    ·exact q2
    ·exact q4
    ·exact of_decide_eq_false hz
  ·cases h
 ·rename_i ws h t y;cases h
  refine aq.asked fun hq=>aq.args (l':=[ff,bg ws,i64 (.o h.den),i64 (.o t.den),sB (.o y.den)]) (fun R vs ha=>by
   match vs,ha with
   | [u,v,x,y,z],ha=>exact ⟨ha.1,ha.2.1,ha.2.2.1,ha.2.2.2.1,ha.2.2.2.2.1,trivial⟩) ?_
  intro A hs
  exact WU m A ⟨fun p hp=>hq p hp,hs⟩
 ·cases h
theorem E_ (os ts:Array Value):bf (EY os ts):=bf.with aU _ _ (Ye os ts)
section
variable {os ts:Array Value}
def dV (os ts:Array Value) (d h q:Int):Int:=if d=10 then b8 ts h q else if d=11 then aI ts h else if d=12 then b8 ts h q else if d=13 then eM os ts h q else eH os ts h q
def dA (os ts:Array Value) (d h q:Int):Array Value:=if d=10 then dG os ts h q else if d=11 then dM os ts h else if d=12 then dH os ts h q else if d=13 then cK os ts h q else cL os ts h q
def ia (os ts:Array Value) (d h q:Int):Array Value:=if d=10 then bT 1 q 0 else if d=11 then bT 2 0 0 else if d=12 then bT 3 0 (ah .shl .u8 1 q) else if d=13 then bT (aW os ts h) (bt os ts h) (fY (aR os ts h) q true) else bT (aW os ts h) (bt os ts h) (fY (aR os ts h) q false)
theorem Bd (h q:Int):cr os ts h q true=eM os ts h q:=by
 unfold cr eM
 split
 ·rfl
 split
 ·rfl
 split
 ·rfl
 rfl
theorem Be (h q:Int):cr os ts h q false=eH os ts h q:=by
 unfold cr eH
 split
 ·rfl
 split
 ·rfl
 split
 ·rfl
 cases bJ (aR os ts h) q <;> rfl
theorem FR {h:Int} (e:aI ts h=0):aB ts h=true∧aO ts h=h:=by
 unfold aI at e
 split at e
 ·exact absurd e (by decide)
 ·rename_i c
  split at e
  ·rename_i d
   refine ⟨?_,d⟩
   cases g:aB ts h with
   | true=>rfl
   | false=>exact absurd g c
  ·exact absurd e (by decide)
theorem FT {h t:Int} (e:b8 ts h t=0):aB ts h=true∧aO ts h=h∧0≤t∧t<8:=by
 unfold b8 at e
 split at e
 ·rename_i c;exact absurd e c
 ·rename_i c
  have:=FR (Decidable.not_not.1 c)
  exact ⟨this.1,this.2,yj e⟩
theorem abl (x y:Int):0≤ah .shl .u8 x y∧ah .shl .u8 x y≤255:=by rw [Zw];exact L7 _
theorem FU (ho:aS os) {d h q:Int} (e:dV os ts d h q=0):∃ kd tk x,(0≤kd∧kd≤255)∧(0≤tk∧tk≤255)∧(0≤x∧x≤255)∧dA os ts d h q=bX os h kd tk x∧ia os ts d h q=bT kd tk x∧aB ts h=true:=by
 obtain ⟨i1,i2,i3⟩:=AX (ts:=ts) ho h
 unfold dV at e
 unfold dA ia
 by_cases d0:d=10
 ·rw [if_pos d0] at e
  obtain ⟨g,_,q0,q1⟩:=FT e
  rw [if_pos d0,if_pos d0]
  refine ⟨1,q,0,⟨by decide,by decide⟩,⟨q0,by omega⟩,⟨by decide,by decide⟩,?_,rfl,g⟩
  unfold dG
  rw [if_pos e,aa7 q0 q1]
 rw [if_neg d0] at e
 rw [if_neg d0,if_neg d0]
 by_cases d1:d=11
 ·rw [if_pos d1] at e
  rw [if_pos d1,if_pos d1]
  exact ⟨2,0,0,⟨by decide,by decide⟩,⟨by decide,by decide⟩,⟨by decide,by decide⟩,if_pos e,rfl,(FR e).1⟩
 rw [if_neg d1] at e
 rw [if_neg d1,if_neg d1]
 by_cases d2:d=12
 ·rw [if_pos d2] at e
  rw [if_pos d2,if_pos d2]
  exact ⟨3,0,_,⟨by decide,by decide⟩,⟨by decide,by decide⟩,abl 1 q,if_pos e,rfl,(FT e).1⟩
 rw [if_neg d2] at e
 rw [if_neg d2,if_neg d2]
 by_cases d3:d=13
 ·rw [if_pos d3] at e
  rw [if_pos d3,if_pos d3]
  have e':cr os ts h q true=0:=(Bd h q).trans e
  exact ⟨_,_,fY (aR os ts h) q true,i1,i2,R5 _ _ _,if_pos e,rfl,(FR (L8 e').1).1⟩
 ·rw [if_neg d3] at e
  rw [if_neg d3,if_neg d3]
  have e':cr os ts h q false=0:=(Be h q).trans e
  exact ⟨_,_,fY (aR os ts h) q false,i1,i2,R5 _ _ _,if_pos e,rfl,(FR (L8 e').1).1⟩
theorem FW {d h q:Int} (e:dV os ts d h q≠0):dA os ts d h q=os:=by
 unfold dV at e
 unfold dA
 split
 ·rename_i c;rw [if_pos c] at e;exact if_neg e
 rename_i c;rw [if_neg c] at e
 split
 ·rename_i c;rw [if_pos c] at e;exact if_neg e
 rename_i c;rw [if_neg c] at e
 split
 ·rename_i c;rw [if_pos c] at e;exact if_neg e
 rename_i c;rw [if_neg c] at e
 split
 ·rename_i c;rw [if_pos c] at e;exact if_neg e
 rename_i c;rw [if_neg c] at e
 exact if_neg e
theorem Bf (ho:aS os) (hf:ay ts) {d h q:Int}:aS (dA os ts d h q):=by
 by_cases e:dV os ts d h q=0
 ·obtain ⟨kd,tk,x,r1,r2,r3,e1,e2,g⟩:=FU ho e
  rw [e1]
  exact (JF ho (wE hf.ok.bk g).1 r1 r2 r3).1
 ·rw [FW e];exact ho
theorem nj (h q:Int):bQ ts h q 1=b8 ts h q∧bQ ts h q 3=b8 ts h q∧bQ ts h q 2=aI ts h:=by
 have key:(if 0≤q∧q<8 then (0:Int) else 2)=if q<0∨7<q then 2 else 0:=by
  by_cases c:0≤q∧q<8
  ·rw [if_pos c,if_neg (by omega)]
  ·rw [if_neg c,if_pos (by omega)]
 unfold bQ b8 dK
 by_cases c:aI ts h=0
 ·rw [c,key]
  simp
 ·simp [c]
theorem FX (q:Int):gB 1 q=bT 1 q 0∧gB 2 q=bT 2 0 0:=⟨EJ 1 q,EJ 2 0⟩
theorem TX {q:Int} (q0:0≤q) (q1:q<8):gB 3 q=bT 3 0 (ah .shl .u8 1 q):=by
 have e:gB 3 q=jF (gU 3 0 q):=rfl
 rw [e,KO 3 q0 q1,Zr q0 q1]
theorem ad_ {h q:Int} (ho:aS os) (e:eH os ts h q=0):iG os ts h q=h_ (fY (aR os ts h) q false) 8:=by
 unfold iG
 rw [if_pos e]
 exact acK (Dq _ _).1 (Dq _ _).2
end
section
variable {os ts ws ra rb:Array Value} {n:Nat} {d a b c q:Int}
theorem abm (w:SW ts ws) (hf:ay ts) (ho:aS os) (hr:bZ os ts ra rb n n) (ha:aN a) (hE:dV os ts d (au ts a) q=0) :
  Good Tryz.prog (yS 2 (dA os ts d (au ts a) q) (cz ra (au ts a) n) (eC ra (au ts a) n) (eD ra rb (au ts a) n (ia os ts d (au ts a) q))) 2 [a_ 5 Tryz.f5.ntmps (yV ts ws os n d a b c q) (Tryz.f5.body.getD .skip)] (fM ra rb):=by
 refine bA (E_ os ts) 1000 (jyA os ts ws ra rb n d a b c q _ _ _ _) ?_ (fun s m h=>h) fun _ _ h=>h.elim
 unfold JQ JP ud uc uJ uI uH A2 A1 A0 AZ AY xK cq
 have hz:=w.sz
 have ht:=hf.ok
 have hts:=ht.sz
 have hos:=ho.sz
 have hh:=mJ ht ha
 have ew:=pI hh
 have bG:0≤au ts a∧au ts a<4294967296:=hh
 have ha':0≤a∧a<4294967296:=ha
 have hS:=(Bf (d:=d) (h:=au ts a) (q:=q) ho hf).sz
 have ow:=hr.l
 have hsz:=hr.sz
 generalize au ts a=h at *
 by_cases k0:d=10
 ·have d0:(d==10)=true:=beq_iff_eq.2 k0
  have eE:b8 ts h q=0:=by unfold dV at hE;rw [if_pos k0] at hE;exact hE
  have eO:dA os ts d h q=dG os ts h q:=if_pos k0
  have eR:ia os ts d h q=bT 1 q 0:=if_pos k0
  have zz:(dG os ts h q).size=128:=by rw [← eO];exact hS
  have e1:bQ ts h q 1=b8 ts h q:=(nj h q).1
  have ex:=(FX q).1
  simp only [d0,eO,zz,e1,eE,eR,ex,hz,hts,hos,w,hf,ho,ht,bG,ha',ew,hr,ow,hsz,true_or,or_true,bne_self_eq_false,beq_self_eq_true,decide_true,q6]
 have d0:(d==10)=false:=beq_eq_false_iff_ne.2 k0
 by_cases k1:d=11
 ·have d1:(d==11)=true:=beq_iff_eq.2 k1
  have eE:aI ts h=0:=by unfold dV at hE;rw [if_neg k0] at hE;rw [if_pos k1] at hE;exact hE
  have eO:dA os ts d h q=dM os ts h:=(if_neg k0).trans (if_pos k1)
  have eR:ia os ts d h q=bT 2 0 0:=(if_neg k0).trans (if_pos k1)
  have zz:(dM os ts h).size=128:=by rw [← eO];exact hS
  have e1:bQ ts h q 2=aI ts h:=(nj h q).2.2
  have ex:=(FX q).2
  simp only [d0,d1,eO,zz,e1,eE,eR,ex,hz,hts,hos,w,hf,ho,ht,bG,ha',ew,hr,ow,hsz,true_or,or_true,bne_self_eq_false,beq_self_eq_true,decide_true,q6]
 have d1:(d==11)=false:=beq_eq_false_iff_ne.2 k1
 by_cases k2:d=12
 ·have d2:(d==12)=true:=beq_iff_eq.2 k2
  have eE:b8 ts h q=0:=by unfold dV at hE;rw [if_neg k0] at hE;rw [if_neg k1] at hE;rw [if_pos k2] at hE;exact hE
  have eO:dA os ts d h q=dH os ts h q:=(if_neg k0).trans ((if_neg k1).trans (if_pos k2))
  have eR:ia os ts d h q=bT 3 0 (ah .shl .u8 1 q):=(if_neg k0).trans ((if_neg k1).trans (if_pos k2))
  have zz:(dH os ts h q).size=128:=by rw [← eO];exact hS
  have e1:bQ ts h q 3=b8 ts h q:=(nj h q).2.1
  have q8:=(FT eE).2.2
  have ex:=TX q8.1 q8.2
  simp only [d0,d1,d2,eO,zz,e1,eE,eR,ex,hz,hts,hos,w,hf,ho,ht,bG,ha',ew,hr,ow,hsz,true_or,or_true,bne_self_eq_false,beq_self_eq_true,decide_true,q6]
 have d2:(d==12)=false:=beq_eq_false_iff_ne.2 k2
 by_cases k3:d=13
 ·have d3:(d==13)=true:=beq_iff_eq.2 k3
  have eE:eM os ts h q=0:=by unfold dV at hE;rw [if_neg k0] at hE;rw [if_neg k1] at hE;rw [if_neg k2] at hE;rw [if_pos k3] at hE;exact hE
  have eO:dA os ts d h q=cK os ts h q:=(if_neg k0).trans ((if_neg k1).trans ((if_neg k2).trans (if_pos k3)))
  have eR:ia os ts d h q=bT (aW os ts h) (bt os ts h) (fY (aR os ts h) q true):=(if_neg k0).trans ((if_neg k1).trans ((if_neg k2).trans (if_pos k3)))
  have zz:(cK os ts h q).size=128:=by rw [← eO];exact hS
  have e1:cr os ts h q true=eM os ts h q:=Bd h q
  simp only [d0,d1,d2,d3,eO,zz,e1,eE,eR,hz,hts,hos,w,hf,ho,ht,bG,ha',ew,hr,ow,hsz,true_or,or_true,bne_self_eq_false,beq_self_eq_true,decide_true,q6]
 have d3:(d==13)=false:=beq_eq_false_iff_ne.2 k3
 have eE:eH os ts h q=0:=by unfold dV at hE;rw [if_neg k0] at hE;rw [if_neg k1] at hE;rw [if_neg k2] at hE;rw [if_neg k3] at hE;exact hE
 have eO:dA os ts d h q=cL os ts h q:=(if_neg k0).trans ((if_neg k1).trans ((if_neg k2).trans ((if_neg k3).trans (rfl))))
 have eR:ia os ts d h q=bT (aW os ts h) (bt os ts h) (fY (aR os ts h) q false):=(if_neg k0).trans ((if_neg k1).trans ((if_neg k2).trans ((if_neg k3).trans (rfl))))
 have zz:(cL os ts h q).size=128:=by rw [← eO];exact hS
 have e1:cr os ts h q false=eH os ts h q:=Be h q
 have eN:=ad_ ho eE
 simp only [d0,d1,d2,d3,eO,zz,e1,eE,eR,eN,hz,hts,hos,w,hf,ho,ht,bG,ha',ew,hr,ow,hsz,true_or,or_true,bne_self_eq_false,beq_self_eq_true,decide_true,q6]
theorem abn (w:SW ts ws) (hf:ay ts) (ho:aS os) (hr:bZ os ts ra rb n n) (ha:aN a) (hE:dV os ts d (au ts a) q≠0) :
  Good Tryz.prog (Nt n (dA os ts d (au ts a) q)) 2 [a_ 5 Tryz.f5.ntmps (yV ts ws os n d a b c q) (Tryz.f5.body.getD .skip)] (fM ra rb):=by
 refine bA (E_ os ts) 1000 (jyB os ts ws ra rb n d a b c q _) ?_ (fun s m h=>h) fun _ _ h=>h.elim
 unfold uf ue uM uL uK A7 A6 A5 A4 A3 xL cX
 have hz:=w.sz
 have ht:=hf.ok
 have hts:=ht.sz
 have hos:=ho.sz
 have hh:=mJ ht ha
 have ew:=pI hh
 have bG:0≤au ts a∧au ts a<4294967296:=hh
 have ha':0≤a∧a<4294967296:=ha
 have hS:=(Bf (d:=d) (h:=au ts a) (q:=q) ho hf).sz
 have ow:=hr.l
 have hsz:=hr.sz
 generalize au ts a=h at *
 by_cases k0:d=10
 ·have d0:(d==10)=true:=beq_iff_eq.2 k0
  have eE:b8 ts h q≠0:=by unfold dV at hE;rw [if_pos k0] at hE;exact hE
  have eO:dA os ts d h q=dG os ts h q:=if_pos k0
  have zz:(dG os ts h q).size=128:=by rw [← eO];exact hS
  have e1:bQ ts h q 1=b8 ts h q:=(nj h q).1
  have e0:decide (b8 ts h q=0)=false:=decide_eq_false eE
  simp only [d0,eO,zz,e1,e0,hz,hts,hos,w,hf,ho,ht,bG,ha',ew,hr,ow,hsz,true_or,or_true,bne_self_eq_false,beq_self_eq_true,decide_true,q6]
 have d0:(d==10)=false:=beq_eq_false_iff_ne.2 k0
 by_cases k1:d=11
 ·have d1:(d==11)=true:=beq_iff_eq.2 k1
  have eE:aI ts h≠0:=by unfold dV at hE;rw [if_neg k0] at hE;rw [if_pos k1] at hE;exact hE
  have eO:dA os ts d h q=dM os ts h:=(if_neg k0).trans (if_pos k1)
  have zz:(dM os ts h).size=128:=by rw [← eO];exact hS
  have e1:bQ ts h q 2=aI ts h:=(nj h q).2.2
  have e0:decide (aI ts h=0)=false:=decide_eq_false eE
  simp only [d0,d1,eO,zz,e1,e0,hz,hts,hos,w,hf,ho,ht,bG,ha',ew,hr,ow,hsz,true_or,or_true,bne_self_eq_false,beq_self_eq_true,decide_true,q6]
 have d1:(d==11)=false:=beq_eq_false_iff_ne.2 k1
 by_cases k2:d=12
 ·have d2:(d==12)=true:=beq_iff_eq.2 k2
  have eE:b8 ts h q≠0:=by unfold dV at hE;rw [if_neg k0] at hE;rw [if_neg k1] at hE;rw [if_pos k2] at hE;exact hE
  have eO:dA os ts d h q=dH os ts h q:=(if_neg k0).trans ((if_neg k1).trans (if_pos k2))
  have zz:(dH os ts h q).size=128:=by rw [← eO];exact hS
  have e1:bQ ts h q 3=b8 ts h q:=(nj h q).2.1
  have e0:decide (b8 ts h q=0)=false:=decide_eq_false eE
  simp only [d0,d1,d2,eO,zz,e1,e0,hz,hts,hos,w,hf,ho,ht,bG,ha',ew,hr,ow,hsz,true_or,or_true,bne_self_eq_false,beq_self_eq_true,decide_true,q6]
 have d2:(d==12)=false:=beq_eq_false_iff_ne.2 k2
 by_cases k3:d=13
 ·have d3:(d==13)=true:=beq_iff_eq.2 k3
  have eE:eM os ts h q≠0:=by unfold dV at hE;rw [if_neg k0] at hE;rw [if_neg k1] at hE;rw [if_neg k2] at hE;rw [if_pos k3] at hE;exact hE
  have eO:dA os ts d h q=cK os ts h q:=(if_neg k0).trans ((if_neg k1).trans ((if_neg k2).trans (if_pos k3)))
  have zz:(cK os ts h q).size=128:=by rw [← eO];exact hS
  have e1:cr os ts h q true=eM os ts h q:=Bd h q
  have e0:decide (eM os ts h q=0)=false:=decide_eq_false eE
  simp only [d0,d1,d2,d3,eO,zz,e1,e0,hz,hts,hos,w,hf,ho,ht,bG,ha',ew,hr,ow,hsz,true_or,or_true,bne_self_eq_false,beq_self_eq_true,decide_true,q6]
 have d3:(d==13)=false:=beq_eq_false_iff_ne.2 k3
 have eE:eH os ts h q≠0:=by unfold dV at hE;rw [if_neg k0] at hE;rw [if_neg k1] at hE;rw [if_neg k2] at hE;rw [if_neg k3] at hE;exact hE
 have eO:dA os ts d h q=cL os ts h q:=(if_neg k0).trans ((if_neg k1).trans ((if_neg k2).trans ((if_neg k3).trans (rfl))))
 have zz:(cL os ts h q).size=128:=by rw [← eO];exact hS
 have e1:cr os ts h q false=eH os ts h q:=Be h q
 have e0:decide (eH os ts h q=0)=false:=decide_eq_false eE
 have eN:iG os ts h q=0:=if_neg eE
 simp only [d0,d1,d2,d3,eO,zz,e1,e0,eN,hz,hts,hos,w,hf,ho,ht,bG,ha',ew,hr,ow,hsz,true_or,or_true,bne_self_eq_false,beq_self_eq_true,decide_true,q6]
theorem abo (w:SW ts ws) (hf:ay ts) (ho:aS os) (hn:dP os ts) (ha:aN a) (hE:dV os ts d (au ts a) q=0) :
  Good Tryz.prog (yS 2 (dA os ts d (au ts a) q) 1 #[.int .i64 (au ts a)] (ia os ts d (au ts a) q)) 2 [a_ 5 Tryz.f5.ntmps (yW ts ws os d a b c q) (Tryz.f5.body.getD .skip)] mg:=by
 refine bA (E_ os ts) 1000 (yz0 os ts ws d a b c q _ _ _ _) ?_ (fun s m h=>h) fun _ _ h=>h.elim
 unfold uP uO uN A_ A9 A8 xM cx
 have hz:=w.sz
 have ht:=hf.ok
 have hts:=ht.sz
 have hos:=ho.sz
 have hh:=mJ ht ha
 have ew:=pI hh
 have bG:0≤au ts a∧au ts a<4294967296:=hh
 have ha':0≤a∧a<4294967296:=ha
 have hS:=(Bf (d:=d) (h:=au ts a) (q:=q) ho hf).sz
 generalize au ts a=h at *
 by_cases k0:d=10
 ·have d0:(d==10)=true:=beq_iff_eq.2 k0
  have eE:b8 ts h q=0:=by unfold dV at hE;rw [if_pos k0] at hE;exact hE
  have eO:dA os ts d h q=dG os ts h q:=if_pos k0
  have eR:ia os ts d h q=bT 1 q 0:=if_pos k0
  have zz:(dG os ts h q).size=128:=by rw [← eO];exact hS
  have e1:bQ ts h q 1=b8 ts h q:=(nj h q).1
  have ex:=(FX q).1
  simp only [d0,eO,zz,e1,eE,eR,ex,hz,hts,hos,w,hf,ho,ht,bG,ha',ew,hn,true_or,or_true,bne_self_eq_false,beq_self_eq_true,decide_true,q6]
 have d0:(d==10)=false:=beq_eq_false_iff_ne.2 k0
 by_cases k1:d=11
 ·have d1:(d==11)=true:=beq_iff_eq.2 k1
  have eE:aI ts h=0:=by unfold dV at hE;rw [if_neg k0] at hE;rw [if_pos k1] at hE;exact hE
  have eO:dA os ts d h q=dM os ts h:=(if_neg k0).trans (if_pos k1)
  have eR:ia os ts d h q=bT 2 0 0:=(if_neg k0).trans (if_pos k1)
  have zz:(dM os ts h).size=128:=by rw [← eO];exact hS
  have e1:bQ ts h q 2=aI ts h:=(nj h q).2.2
  have ex:=(FX q).2
  simp only [d0,d1,eO,zz,e1,eE,eR,ex,hz,hts,hos,w,hf,ho,ht,bG,ha',ew,hn,true_or,or_true,bne_self_eq_false,beq_self_eq_true,decide_true,q6]
 have d1:(d==11)=false:=beq_eq_false_iff_ne.2 k1
 by_cases k2:d=12
 ·have d2:(d==12)=true:=beq_iff_eq.2 k2
  have eE:b8 ts h q=0:=by unfold dV at hE;rw [if_neg k0] at hE;rw [if_neg k1] at hE;rw [if_pos k2] at hE;exact hE
  have eO:dA os ts d h q=dH os ts h q:=(if_neg k0).trans ((if_neg k1).trans (if_pos k2))
  have eR:ia os ts d h q=bT 3 0 (ah .shl .u8 1 q):=(if_neg k0).trans ((if_neg k1).trans (if_pos k2))
  have zz:(dH os ts h q).size=128:=by rw [← eO];exact hS
  have e1:bQ ts h q 3=b8 ts h q:=(nj h q).2.1
  have q8:=(FT eE).2.2
  have ex:=TX q8.1 q8.2
  simp only [d0,d1,d2,eO,zz,e1,eE,eR,ex,hz,hts,hos,w,hf,ho,ht,bG,ha',ew,hn,true_or,or_true,bne_self_eq_false,beq_self_eq_true,decide_true,q6]
 have d2:(d==12)=false:=beq_eq_false_iff_ne.2 k2
 by_cases k3:d=13
 ·have d3:(d==13)=true:=beq_iff_eq.2 k3
  have eE:eM os ts h q=0:=by unfold dV at hE;rw [if_neg k0] at hE;rw [if_neg k1] at hE;rw [if_neg k2] at hE;rw [if_pos k3] at hE;exact hE
  have ne:=(Iq (h:=h) (t:=q) (y:=true) w hf hn).1
  rw [Bd] at ne
  exact absurd eE ne
 have d3:(d==13)=false:=beq_eq_false_iff_ne.2 k3
 have eE:eH os ts h q=0:=by unfold dV at hE;rw [if_neg k0] at hE;rw [if_neg k1] at hE;rw [if_neg k2] at hE;rw [if_neg k3] at hE;exact hE
 have ne:=(Iq (h:=h) (t:=q) (y:=false) w hf hn).1
 rw [Be] at ne
 exact absurd eE ne
theorem abp (w:SW ts ws) (hf:ay ts) (ho:aS os) (hn:dP os ts) (ha:aN a) (hE:dV os ts d (au ts a) q≠0) :
  Good Tryz.prog (Nu (dA os ts d (au ts a) q)) 2 [a_ 5 Tryz.f5.ntmps (yW ts ws os d a b c q) (Tryz.f5.body.getD .skip)] mg:=by
 refine bA (E_ os ts) 1000 (yz1 os ts ws d a b c q _) ?_ (fun s m h=>h) fun _ _ h=>h.elim
 unfold uS uR uQ Bc Bb Ba xN cE
 have hz:=w.sz
 have ht:=hf.ok
 have hts:=ht.sz
 have hos:=ho.sz
 have hh:=mJ ht ha
 have ew:=pI hh
 have bG:0≤au ts a∧au ts a<4294967296:=hh
 have ha':0≤a∧a<4294967296:=ha
 have hS:=(Bf (d:=d) (h:=au ts a) (q:=q) ho hf).sz
 generalize au ts a=h at *
 by_cases k0:d=10
 ·have d0:(d==10)=true:=beq_iff_eq.2 k0
  have eE:b8 ts h q≠0:=by unfold dV at hE;rw [if_pos k0] at hE;exact hE
  have eO:dA os ts d h q=dG os ts h q:=if_pos k0
  have zz:(dG os ts h q).size=128:=by rw [← eO];exact hS
  have e1:bQ ts h q 1=b8 ts h q:=(nj h q).1
  have e0:decide (b8 ts h q=0)=false:=decide_eq_false eE
  simp only [d0,eO,zz,e1,e0,hz,hts,hos,w,hf,ho,ht,bG,ha',ew,hn,true_or,or_true,bne_self_eq_false,beq_self_eq_true,decide_true,q6]
 have d0:(d==10)=false:=beq_eq_false_iff_ne.2 k0
 by_cases k1:d=11
 ·have d1:(d==11)=true:=beq_iff_eq.2 k1
  have eE:aI ts h≠0:=by unfold dV at hE;rw [if_neg k0] at hE;rw [if_pos k1] at hE;exact hE
  have eO:dA os ts d h q=dM os ts h:=(if_neg k0).trans (if_pos k1)
  have zz:(dM os ts h).size=128:=by rw [← eO];exact hS
  have e1:bQ ts h q 2=aI ts h:=(nj h q).2.2
  have e0:decide (aI ts h=0)=false:=decide_eq_false eE
  simp only [d0,d1,eO,zz,e1,e0,hz,hts,hos,w,hf,ho,ht,bG,ha',ew,hn,true_or,or_true,bne_self_eq_false,beq_self_eq_true,decide_true,q6]
 have d1:(d==11)=false:=beq_eq_false_iff_ne.2 k1
 by_cases k2:d=12
 ·have d2:(d==12)=true:=beq_iff_eq.2 k2
  have eE:b8 ts h q≠0:=by unfold dV at hE;rw [if_neg k0] at hE;rw [if_neg k1] at hE;rw [if_pos k2] at hE;exact hE
  have eO:dA os ts d h q=dH os ts h q:=(if_neg k0).trans ((if_neg k1).trans (if_pos k2))
  have zz:(dH os ts h q).size=128:=by rw [← eO];exact hS
  have e1:bQ ts h q 3=b8 ts h q:=(nj h q).2.1
  have e0:decide (b8 ts h q=0)=false:=decide_eq_false eE
  simp only [d0,d1,d2,eO,zz,e1,e0,hz,hts,hos,w,hf,ho,ht,bG,ha',ew,hn,true_or,or_true,bne_self_eq_false,beq_self_eq_true,decide_true,q6]
 have d2:(d==12)=false:=beq_eq_false_iff_ne.2 k2
 by_cases k3:d=13
 ·have d3:(d==13)=true:=beq_iff_eq.2 k3
  have eE:eM os ts h q≠0:=by unfold dV at hE;rw [if_neg k0] at hE;rw [if_neg k1] at hE;rw [if_neg k2] at hE;rw [if_pos k3] at hE;exact hE
  have eO:dA os ts d h q=cK os ts h q:=(if_neg k0).trans ((if_neg k1).trans ((if_neg k2).trans (if_pos k3)))
  have zz:(cK os ts h q).size=128:=by rw [← eO];exact hS
  have e1:cr os ts h q true=eM os ts h q:=Bd h q
  have e0:decide (eM os ts h q=0)=false:=decide_eq_false eE
  simp only [d0,d1,d2,d3,eO,zz,e1,e0,hz,hts,hos,w,hf,ho,ht,bG,ha',ew,hn,true_or,or_true,bne_self_eq_false,beq_self_eq_true,decide_true,q6]
 have d3:(d==13)=false:=beq_eq_false_iff_ne.2 k3
 have eE:eH os ts h q≠0:=by unfold dV at hE;rw [if_neg k0] at hE;rw [if_neg k1] at hE;rw [if_neg k2] at hE;rw [if_neg k3] at hE;exact hE
 have eO:dA os ts d h q=cL os ts h q:=(if_neg k0).trans ((if_neg k1).trans ((if_neg k2).trans ((if_neg k3).trans (rfl))))
 have zz:(cL os ts h q).size=128:=by rw [← eO];exact hS
 have e1:cr os ts h q false=eH os ts h q:=Be h q
 have e0:decide (eH os ts h q=0)=false:=decide_eq_false eE
 have eN:iG os ts h q=0:=if_neg eE
 simp only [d0,d1,d2,d3,eO,zz,e1,e0,eN,hz,hts,hos,w,hf,ho,ht,bG,ha',ew,hn,true_or,or_true,bne_self_eq_false,beq_self_eq_true,decide_true,q6]
end
set_option linter.unusedVariables false
def U_ (N:Nat) (o:Array Value) (p q:Nat) (s:SV):Prop:=∃ n k c d e,s=.bW [.agg (.op o),.agg (.ls [.f (.slice p (.l 0) n c),.f (.slice q (.l 0) k d)]),.c (.f (.bool e))]∧n.den=N∧k.den=N∧e.den=true
def vT (N:Nat) (o:Array Value) (i j:Nat):SV:=.bW [.agg (.op o),.agg (.ls [.f (.slice i (.l 0) (.o N) .any),.f (.slice j (.l 0) (.o N) .any)]),.c (.f (.bool (.l true)))]
def U' (o:Array Value):SV:=.bW [.agg (.op o),.agg (.ls [.f (.lit (.slice none 0 0)),.f (.lit (.slice none 0 0))]),.c (.f (.bool (.l true)))]
theorem PK {B N:Nat} {o a b:Array Value} {s:SV} {m:aj} (h:yS B o N a b s m):AK (U_ N o) B a b 3 111 s m:=by
 unfold yS at h
 split at h
 ·rename_i o' x y e
  obtain ⟨rfl,h,he⟩:=h
  obtain ⟨p,q,n,k,c,d,x1,y1,rfl,rfl,h1,h2,h3,h4,h5,h6,h7,h8,h9⟩:=C0 h
  exact ⟨p,q,x1,y1,h3,h4,h5,⟨n,k,c,d,e,rfl,h1,h2,he⟩,h6,h7,h8,h9⟩
 ·exact h.elim
theorem Sc {R R':aX} {o:Array Value} {v:Value} (h:(S1.agg (.op o)).ok R v):(S1.agg (.op o)).ok R' v:=h
theorem JR (N:Nat) (o:Array Value):∀ (R R':aX) (v:Value) (p q i j:Nat) (g1 g2:Loc) (s:SV),R p=some g1→R q=some g2→R' i=some g1→R' j=some g2→U_ N o p q s→s.ok R v→(vT N o i j).ok R' v:=by
 rintro R R' v p q i j g1 g2 s r1 r2 s1 s2 ⟨n,k,c,d,e,rfl,e1,e2,e3⟩ hv
 obtain ⟨vs,rfl,hl⟩:=hv
 match hc:vs.toList,hl with
 | [x,u,z],⟨hx,hu,hz,_⟩ =>
  refine ⟨vs,rfl,?_⟩
  rw [hc]
  refine ⟨Sc hx,uA N R R' u p q i j g1 g2 _ r1 r2 s1 s2 ⟨n,k,c,d,rfl,e1,e2⟩ hu,?_,trivial⟩
  have hz:z=.bool e.den:=hz
  rw [e3] at hz
  exact hz
theorem FY:E0.fn 5=some Tryz.f5:=by kernel_rfl
theorem DQ:Tryz.f5.body=some (Tryz.f5.body.getD .skip):=by kernel_rfl
section
variable {os ts ws ra rb:Array Value}
theorem Yg {m:aj} {i j:Nat} {n k':SN} {c1 c2:SK} {w1 w2:Bool} (d a b c q:Int) (dZ:aH m.bl i=some ⟨.pop ra,3,w1⟩) (e_:aH m.bl j=some ⟨.pop rb,111,w2⟩) :
  aq E0 5 [bB ts,bg ws,cJ os,.s (.agg (.ls [.f (.slice i (.l 0) n c1),.f (.slice j (.l 0) k' c2)])),mW d a b c q] m (.need [SW ts ws,ay ts,aS os,bZ os ts ra rb n.den k'.den,aN a] (.br (decide (dV os ts d (au ts a) q=0)) (.ret (vT (cz ra (au ts a) n.den) (dA os ts d (au ts a) q) m.next (m.next+1)) (lp m (eC ra (au ts a) n.den) (eD ra rb (au ts a) n.den (ia os ts d (au ts a) q)) 3 111)) (.ret (vT n.den (dA os ts d (au ts a) q) i j) m))):=by
 refine aq.asked fun hq=>?_
 have w:SW ts ws:=hq _ (by simp)
 have hf:ay ts:=hq _ (by simp)
 have ho:aS os:=hq _ (by simp)
 have hr:bZ os ts ra rb n.den k'.den:=hq _ (by simp)
 have ha:aN a:=hq _ (by simp)
 obtain ⟨l,el,e1,e2,e3⟩:=hr.l
 have ek:k'.den=n.den:=e2.trans e1.symm
 have hn:bZ os ts ra rb n.den n.den:=by rw [ek] at hr;exact hr
 have hl:∀ R vs,aK (SV.ok R) [bB ts,bg ws,cJ os,.s (.agg (.ls [.f (.slice i (.l 0) n c1),.f (.slice j (.l 0) k' c2)])),mW d a b c q] vs→aK (SV.ok (pull (fun q=>if q=0 then i else j) (fM ra rb).next R)) (yV ts ws os n.den d a b c q) vs:=by
  intro R vs ha
  match vs,ha with
  | [u,v,x,y,z],ha=>exact ⟨ha.1,ha.2.1,ha.2.2.1,o9 rfl ek rfl ha.2.2.2.1,wX (s:=mW d a b c q) rfl ha.2.2.2.2.1,trivial⟩
 refine aq.two (fun hz=>?_) (fun hz=>?_)
 ·exact (show aq E0 5 _ m (bu [] _) from aq.uy aU FY DQ rfl (fun q=>if q=0 then i else j) (m4 dZ e_) hl (JR (cz ra (au ts a) n.den) (dA os ts d (au ts a) q)) (fun _=>(abm w hf ho hn ha (of_decide_eq_true hz)).mono fun s m h=>PK h))
 ·refine (show aq E0 5 _ m (bu [] _) from aq.xC aU FY DQ rfl (fun q=>if q=0 then i else j) (m4 dZ e_) hl (fun _=>abn w hf ho hn ha (of_decide_eq_false hz)) fun s m' R R' v hs hx hg hv=>?_)
  obtain ⟨g1,r1⟩:=hg _ _ dZ
  obtain ⟨g2,r2⟩:=hg _ _ e_
  have s1:R' 0=some g1:=hx 0 g1 r1
  have s2:R' 1=some g2:=hx 1 g2 r2
  unfold Nt at hs
  split at hs
  ·obtain ⟨rfl,f1,f2,f3⟩:=hs
   exact JR n.den _ R' R v 0 1 i j g1 g2 _ s1 s2 r1 r2 ⟨_,_,_,_,_,rfl,f1,f2,f3⟩ hv
  ·exact hs.elim
theorem Yh (d a b c q:Int) (m:aj):aq E0 5 [bB ts,bg ws,cJ os,ff,mW d a b c q] m (.need [SW ts ws,ay ts,aS os,dP os ts,aN a] (.br (decide (dV os ts d (au ts a) q=0)) (.ret (vT 1 (dA os ts d (au ts a) q) m.next (m.next+1)) (lp m #[.int .i64 (au ts a)] (ia os ts d (au ts a) q) 3 111)) (.ret (U' (dA os ts d (au ts a) q)) m))):=by
 refine aq.asked fun hq=>?_
 have w:SW ts ws:=hq _ (by simp)
 have hf:ay ts:=hq _ (by simp)
 have ho:aS os:=hq _ (by simp)
 have hn:dP os ts:=hq _ (by simp)
 have ha:aN a:=hq _ (by simp)
 have hm:∀ i b,aH mg.bl i=some b→i<mg.next∧b.wr=false∧∃ d,aH m.bl ((fun q=>q) i)=some d∧b.ty=d.ty∧∀ R cs,d.arr.cH R cs→b.arr.cH (pull (fun q=>q) mg.next R) cs:=fun i b hb=>by
  have hb:(Tr.nil:Tr bN).get i=some b:=hb
  rw [Tr.get_nil] at hb
  cases hb
 have hl:∀ R vs,aK (SV.ok R) [bB ts,bg ws,cJ os,ff,mW d a b c q] vs→aK (SV.ok (pull (fun q=>q) mg.next R)) (yW ts ws os d a b c q) vs:=fun R vs ha=>mw rfl ha
 refine aq.two (fun hz=>?_) (fun hz=>?_)
 ·exact (show aq E0 5 _ m (bu [] _) from aq.uy aU FY DQ rfl (fun q=>q) hm hl (JR 1 (dA os ts d (au ts a) q)) (fun _=>(abo w hf ho hn ha (of_decide_eq_true hz)).mono fun s m h=>PK h))
 ·refine (show aq E0 5 _ m (bu [] _) from aq.xC aU FY DQ rfl (fun q=>q) hm hl (fun _=>abp w hf ho hn ha (of_decide_eq_false hz)) fun s m' R R' v hs hx hg hv=>?_)
  unfold Nu at hs
  split at hs
  ·rename_i o' e
   obtain ⟨rfl,f3⟩:=hs
   obtain ⟨vs,rfl,hl⟩:=hv
   match hc:vs.toList,hl with
   | [x,u,z],⟨hx,hu,hz,_⟩ =>
    refine ⟨vs,rfl,?_⟩
    rw [hc]
    refine ⟨Sc hx,(wX (s:=ff) rfl hu:ff.ok R u),?_,trivial⟩
    have hz:z=.bool e.den:=hz
    rw [f3] at hz
    exact hz
  ·exact hs.elim
end
end Go.Proofs.YtldoopjnjlpbpaaGreatDoor
