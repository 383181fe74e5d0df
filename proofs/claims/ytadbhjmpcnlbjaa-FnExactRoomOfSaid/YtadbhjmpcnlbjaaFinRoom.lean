/- For every tree in memory and every int, the law on RoomOf returns true and leaves its arguments as they were; no conditions. -/
import Derived.Test.YtadbhjmpcnlbjaaRows
import Derived.Test.YtadbhjmpcnlbjaaImRoom
import Derived.Test.YtadbhjmpcnlbjaaRowRoom
namespace Go.Proofs.Ytadbhjmpcnlbjaa

theorem room_of_said : Rows.FnExactRoomOfSaid := exRoomOf.proved impl_room
end Go.Proofs.Ytadbhjmpcnlbjaa
