/- A stub: nothing of the shelf is wanted here. -/
import Derived.Test.YtofcjkfaccdnjaaDoorProg
